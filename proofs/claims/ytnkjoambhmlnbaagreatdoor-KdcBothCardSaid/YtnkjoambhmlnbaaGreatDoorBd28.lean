/-
  What sha.paddingOf and sha.bytesOf do: the padding of an input of so many bytes, and a state as a digest. Pure facts for RefXored. Pure facts for RefEncrypt. What aes.double does: 2 times a byte, as the program works it out. What aes.values does: the S-box, as the program has it. What aes.substitute does: the S-box on each byte, the rows rotated. The frame that substitute, mix and nextKey share: a block that came in, a place for the result, a block under way. What aes.add does: two blocks, byte by byte. What aes.nextKey does: the round key behind the one before. What aes.keysBy does: the round keys, as the program makes them. What aes.mix does: each column anew of all four bytes of it. What aes.Encrypt does: the encryption of a block.
-/
import Derived.Test.YtnkjoambhmlnbaaGreatDoorProg
import Derived.Test.YtnkjoambhmlnbaaGreatDoorBd05
import Derived.Test.YtnkjoambhmlnbaaGreatDoorBd01
import Derived.Deep.WholeRow
import Derived.Laws.Tables
namespace Go.Proofs.YtnkjoambhmlnbaaGreatDoor.Sha
open Go Go.RowKit Go.Proofs.YtnkjoambhmlnbaaGreatDoor.Aid

/-- Where the eight bytes of the length begin. -/
def padAt (n : Nat) : Nat := 1 + (119 - n % 64) % 64
theorem padAt_le (n : Nat) : 1 ≤ padAt n ∧ padAt n ≤ 64 := by unfold padAt; omega
def lenByte (n i : Nat) : BitVec 8 := BitVec.ofNat 8 (8 * n / 2 ^ (56 - 8 * i))
def padByte (n j : Nat) : BitVec 8 := if j = 0 then 128 else if padAt n ≤ j ∧ j < padAt n + 8 then lenByte n (j - padAt n) else 0
def padTo (n k j : Nat) : BitVec 8 := if j = 0 then 128 else if padAt n ≤ j ∧ j < padAt n + k then lenByte n (j - padAt n) else 0
theorem padTo_step (n k j : Nat) (hk : k < 8) : (if j = padAt n + k then Value.int .u8 ((lenByte n k).toNat : Int) else Value.int .u8 ((padTo n k j).toNat : Int)) = Value.int .u8 ((padTo n (k + 1) j).toNat : Int) := by
  have := padAt_le n
  unfold padTo
  by_cases h : j = padAt n + k
  · subst h
    rw [if_pos rfl, if_neg (by omega), if_pos (by omega), Nat.add_sub_cancel_left]
  · rw [if_neg h]
    by_cases h0 : j = 0
    · rw [if_pos h0, if_pos h0]
    · rw [if_neg h0, if_neg h0]
      by_cases h2 : padAt n ≤ j ∧ j < padAt n + k
      · rw [if_pos h2, if_pos (by omega)]
      · rw [if_neg h2, if_neg (by omega)]

theorem pad_at_walk (n : Nat) : wrap64 (1 + wrap64 ((IntKind.u64.wrap (55 - (n : Int))).tmod 64)) = (padAt n : Int) := by
  have h1 : IntKind.u64.wrap (55 - (n : Int)) = (55 - (n : Int)) % 18446744073709551616 := IntKind.wrap_u64 _
  have h2 : (0 : Int) ≤ (55 - (n : Int)) % 18446744073709551616 := by omega
  rw [h1, Int.tmod_eq_emod_of_nonneg h2]
  have h3 : (55 - (n : Int)) % 18446744073709551616 % 64 = (119 - (n : Int) % 64) % 64 := by omega
  rw [h3]
  have e1 : wrap64 ((119 - (n : Int) % 64) % 64) = (119 - (n : Int) % 64) % 64 := IntWalk.wrap64_in _ (by omega)
  have e2 : wrap64 (1 + (119 - (n : Int) % 64) % 64) = 1 + (119 - (n : Int) % 64) % 64 := IntWalk.wrap64_in _ (by omega)
  rw [e1, e2]
  unfold padAt
  omega
theorem lenByte_walk (n k : Nat) : (((n : Int) * 8) / 2 ^ (56 - 8 * k)) % 256 = ((lenByte n k).toNat : Int) := by
  unfold lenByte
  rw [BitVec.toNat_ofNat]
  have h : ((8 * n / 2 ^ (56 - 8 * k) % 2 ^ 8 : Nat) : Int) = ((8 * n / 2 ^ (56 - 8 * k) : Nat) : Int) % 256 := by omega
  rw [h, Int.natCast_ediv]
  simp [Int.mul_comm]
/-- What paddingOf holds in its loop. -/
structure PadRows (n k : Nat) (w wr : World) : Prop where
  r0 : wr.rowIs w.heap.size 143 72 (fun _ => .int .u8 0)
  r1 : wr.rowIs (w.heap.size + 1) 143 72 (fun j => .int .u8 ((padTo n k j).toNat : Int))
  hb : Below w.heap.size w wr
theorem PadRows.born (n : Nat) (w : World) : PadRows n 0 w ((w.alloc (Obj.cells (cellsOf 72 fun _ => Value.int IntKind.u8 0) 143)).alloc
      (Obj.cells ((cellsOf 72 fun _ => Value.int IntKind.u8 0).setIfInBounds 0 (Value.int IntKind.u8 128)) 143)) := by
  have a0 := row_new w (cellsOf 72 fun _ => Value.int IntKind.u8 0) 143 72 _ (size_cellsOf _ _) (cellsOf_at _ _)
  have s1 : (w.alloc (Obj.cells (cellsOf 72 fun _ => Value.int IntKind.u8 0) 143)).heap.size = w.heap.size + 1 := by simp
  have a1 := row_new (w.alloc (Obj.cells (cellsOf 72 fun _ => Value.int IntKind.u8 0) 143)) ((cellsOf 72 fun _ => Value.int IntKind.u8 0).setIfInBounds 0 (Value.int IntKind.u8 128)) 143 72
    (fun j => .int .u8 ((padTo n 0 j).toNat : Int)) (by rw [Array.size_setIfInBounds, size_cellsOf]) (by
      intro i hi
      rw [Array.getElem?_setIfInBounds, size_cellsOf]
      by_cases h0 : 0 = i
      · subst h0; simp [padTo]
      · rw [if_neg h0, cellsOf_at _ _ _ hi]
        have h1 : ¬ i = 0 := fun e => h0 e.symm
        have h2 : ¬ (padAt n ≤ i ∧ i < padAt n + 0) := by omega
        simp only [padTo, if_neg h1, if_neg h2]
        rfl)
  rw [s1] at a1
  exact ⟨a0.alloc _, a1, ((Below.refl _ _).alloc (by simp) _).alloc (by simp) _⟩
theorem PadRows.next {n k : Nat} {w wr : World} (h : PadRows n k w wr) (hk : k < 8) (v : Int) (hv : v = ((lenByte n k).toNat : Int)) :
    PadRows n (k + 1) w (wr.setCell ⟨w.heap.size + 1, padAt n + k, none⟩ (.int .u8 v)) := by
  subst hv
  exact ⟨h.r0.setOther (by simp) _, (h.r1.set _ _).congr (fun j _ => padTo_step n k j hk), h.hb.setCell (by simp) _⟩

set_option maxRecDepth 100000 in
set_option maxHeartbeats 1000000 in
theorem padding_any (n : Nat) (hn : n < 1152921504606846976) (w : World) :
    Calls Tryz.prog 97 #[.int .u64 n] w fun e w' => e = .returned (.tuple #[.agg (byteCells 72 (padByte n)), .int .i64 ((padAt n + 8 : Nat) : Int)]) ∧ Below w.heap.size w w' := by
  have hc0 : (cellsOf 72 fun _ => Value.int IntKind.u8 0)[0]? = some (.int .u8 0) := cellsOf_at _ _ _ (by omega)
  obtain ⟨hz, _⟩ := zero_of_info (P := Tryz.prog) (t := 143) (v := .agg (cellsOf 72 fun _ => .int .u8 0)) (n := 72) (by kernel_rfl)
  go_enter Tryz.func97, Tryz.ntmps97
  go_wp2
  rw [pad_at_walk n]
  have hp := padAt_le n
  go_loopw [7, 16] (fun _ i wr => ∃ k : Nat, k ≤ 8 ∧ i = .int .i64 k ∧ PadRows n k w wr) (fun _ i _ => 8 - (intOf i).toNat)
  case atStart => exact ⟨0, by omega, rfl, PadRows.born n w⟩
  case round =>
    obtain ⟨k, hk, rfl, h⟩ := hrel
    by_cases hlt : k < 8
    · have c0 := h.r1.cell (i := padAt n + k) (by omega)
      have f0 := h.r1.frozen (padAt n + k)
      go_wp2
      go_roundw
      case rel => exact ⟨k + 1, by omega, by go_num, h.next hlt _ (lenByte_walk n k)⟩
      case measure => simp [intOf]; omega
    · have hr0 := h.r0
      have hr1 : wr.rowIs _ 143 72 (fun j => .int .u8 ((padByte n j).toNat : Int)) := h.r1.congr (fun j hj => by
        have e : k = 8 := by omega
        rw [e]; rfl)
      have hbl := h.hb
      clear h
      go_wp2_with (first
        | (refine load_whole (by rfl) 143 (.tmp 4) (by rfl) _ _ _ _ hr1 (by rfl) _ Tryz.underlying143 rfl (by kernel_rfl) ?_)
        | (refine store_whole (by rfl) 143 (.tmp 2) (.tmp 30) (by rfl) w.heap.size _ _ _ _ hr0 (by rfl) _ (by rfl) (by kernel_rfl) (size_cellsOf _ _) (cellsOf_at _ _) (fun _ _ => rfl) ?_
           intro w3 hr3 ho3))
      refine bodyPost_ret (results_row_tmp rfl _ w.heap.size _ _ _ _ (by rfl) hr3 Tryz.underlying143 rfl (by kernel_rfl)) rfl ⟨?_, ho3.below hbl (by omega)⟩
      show Ending.returned (.tuple #[_, Value.int .i64 ((padAt n : Int) + 8)]) = _
      rw [show ((padAt n : Int) + 8) = ((padAt n + 8 : Nat) : Int) by omega]
      rfl


theorem byteOf_0 (s : St) (k : Nat) : ((s.get k).toNat : Int) / 16777216 = ((byteOf s (4 * k)).toNat : Int) := by
  have hlt := (s.get k).isLt
  rw [show ((s.get k).toNat : Int) / 16777216 = ((s.get k).toNat : Int) / 16777216 % 256 by omega]
  unfold byteOf
  rw [show 4 * k / 4 = k by omega, show 24 - 8 * (4 * k % 4) = 24 by omega, ← low8, ← shr32]
  rfl
theorem byteOf_1 (s : St) (k : Nat) : ((s.get k).toNat : Int) / 65536 % 256 = ((byteOf s (4 * k + 1)).toNat : Int) := by
  unfold byteOf
  rw [show (4 * k + 1) / 4 = k by omega, show 24 - 8 * ((4 * k + 1) % 4) = 16 by omega, ← low8, ← shr32]
  rfl
theorem byteOf_2 (s : St) (k : Nat) : ((s.get k).toNat : Int) / 256 % 256 = ((byteOf s (4 * k + 2)).toNat : Int) := by
  unfold byteOf
  rw [show (4 * k + 2) / 4 = k by omega, show 24 - 8 * ((4 * k + 2) % 4) = 8 by omega, ← low8, ← shr32]
  rfl
theorem byteOf_3 (s : St) (k : Nat) : ((s.get k).toNat : Int) % 256 = ((byteOf s (4 * k + 3)).toNat : Int) := by
  unfold byteOf
  rw [show (4 * k + 3) / 4 = k by omega, show 24 - 8 * ((4 * k + 3) % 4) = 0 by omega, ← low8, ← shr32]
  simp
def bytesTo (s : St) (k j : Nat) : BitVec 8 := if j < 4 * k then byteOf s j else 0
/-- What bytesOf holds in its loop. -/
structure ByteRows (s : St) (k : Nat) (w wr : World) : Prop where
  r1 : wr.rowIs (w.heap.size + 1) 101 32 (fun _ => .int .u8 0)
  r2 : wr.rowIs (w.heap.size + 1 + 1) 101 32 (fun j => .int .u8 ((bytesTo s k j).toNat : Int))
  hb : Below w.heap.size w wr
theorem ByteRows.born (s : St) (w : World) (S Z : Array Value) (hZ : Z = Array.replicate 32 (.int .u8 0)) :
    ByteRows s 0 w (((w.alloc (.cells S 139)).alloc (.cells Z 101)).alloc (.cells Z 101)) := by
  have s1 : (w.alloc (.cells S 139)).heap.size = w.heap.size + 1 := by simp
  have s2 : ((w.alloc (.cells S 139)).alloc (.cells Z 101)).heap.size = w.heap.size + 1 + 1 := by simp
  have hz : ∀ i, i < 32 → Z[i]? = some (.int .u8 0) := by subst hZ; intro i hi; simp [hi]
  have hs : Z.size = 32 := by subst hZ; simp
  have a1 := row_new (w.alloc (.cells S 139)) Z 101 32 _ hs hz
  have a2 := row_new ((w.alloc (.cells S 139)).alloc (.cells Z 101)) Z 101 32 _ hs hz
  rw [s1] at a1
  rw [s2] at a2
  exact ⟨a1.alloc _, a2.congr (fun j _ => by simp [bytesTo]), (((Below.refl _ _).alloc (by simp) _).alloc (by simp) _).alloc (by simp; omega) _⟩

theorem bytesTo_step (s : St) (k j : Nat) :
    (if j = 4 * k + 3 then Value.int .u8 ((byteOf s (4 * k + 3)).toNat : Int) else if j = 4 * k + 2 then Value.int .u8 ((byteOf s (4 * k + 2)).toNat : Int) else if j = 4 * k + 1 then Value.int .u8 ((byteOf s (4 * k + 1)).toNat : Int)
      else if j = 4 * k then Value.int .u8 ((byteOf s (4 * k)).toNat : Int) else Value.int .u8 ((bytesTo s k j).toNat : Int)) = Value.int .u8 ((bytesTo s (k + 1) j).toNat : Int) := by
  unfold bytesTo
  by_cases h3 : j = 4 * k + 3
  · subst h3; rw [if_pos rfl, if_pos (by omega)]
  · rw [if_neg h3]
    by_cases h2 : j = 4 * k + 2
    · subst h2; rw [if_pos rfl, if_pos (by omega)]
    · rw [if_neg h2]
      by_cases h1 : j = 4 * k + 1
      · subst h1; rw [if_pos rfl, if_pos (by omega)]
      · rw [if_neg h1]
        by_cases h0 : j = 4 * k
        · subst h0; rw [if_pos rfl, if_pos (by omega)]
        · rw [if_neg h0]
          by_cases h : j < 4 * k
          · rw [if_pos h, if_pos (by omega)]
          · rw [if_neg h, if_neg (by omega)]
theorem ByteRows.next {s : St} {k : Nat} {w wr : World} (h : ByteRows s k w wr) : ByteRows s (k + 1) w ((((wr.setCell { block := w.heap.size + 1 + 1, off := 4 * k }
    (Value.int IntKind.u8 (((s.get k).toNat : Int) / 16777216))).setCell { block := w.heap.size + 1 + 1, off := 4 * k + 1 } (Value.int IntKind.u8 (((s.get k).toNat : Int) / 65536 % 256))).setCell
    { block := w.heap.size + 1 + 1, off := 4 * k + 2 } (Value.int IntKind.u8 (((s.get k).toNat : Int) / 256 % 256))).setCell { block := w.heap.size + 1 + 1, off := 4 * k + 3 } (Value.int IntKind.u8 (((s.get k).toNat : Int) % 256))) := by
  rw [byteOf_0, byteOf_1, byteOf_2, byteOf_3]
  refine ⟨(((h.r1.setOther (by simp) _).setOther (by simp) _).setOther (by simp) _).setOther (by simp) _, ?_, (((h.hb.setCell (by simp; omega) _).setCell (by simp; omega) _).setCell (by simp; omega) _).setCell (by simp; omega) _⟩
  exact ((((h.r2.set (4 * k) _).set (4 * k + 1) _).set (4 * k + 2) _).set (4 * k + 3) _).congr (fun j _ => bytesTo_step s k j)

set_option maxRecDepth 100000 in
set_option maxHeartbeats 1000000 in
theorem bytes_any (s : St) (S : Array Value) (hS : S.size = 8) (hs : ∀ i, i < 8 → S[i]? = some (.int .u32 ((s.get i).toNat : Int))) (w : World) :
    Calls Tryz.prog 98 #[.agg S] w fun e w' => e = .returned (.agg (byteCells 32 (byteOf s))) ∧ Below w.heap.size w w' := by
  have HS := Lib.hid hS
  have Hs := Lib.hid hs
  clear hS hs
  go_enter Tryz.func98, Tryz.ntmps98
  go_wp2_with (refine load_whole (by rfl) 139 (.tmp 1) (by rfl) w.heap.size _ 8 (fun j => .int .u32 ((s.get j).toNat : Int)) (by exact ((row_new w S _ 8 _ HS.out Hs.out).alloc _).alloc _) (by rfl) _ Tryz.underlying139 rfl (by kernel_rfl) ?_)
  go_loopw [7] (fun i wr => ∃ k : Nat, k ≤ 8 ∧ i = .int .i64 k ∧ ByteRows s k w wr) (fun i _ => 8 - (intOf i).toNat)
  case atStart => exact ⟨0, by omega, rfl, ByteRows.born s w S _ rfl⟩
  case round =>
    obtain ⟨k, hk, rfl, h⟩ := hrel
    by_cases hlt : k < 8
    · have hx : ∀ W : World, (Instr.index 139 (.agg (cellsOf 8 fun j => Value.int IntKind.u32 ((s.get j).toNat : Int))) (.int .i64 (k : Int))).run Tryz.prog W = .ok (.int .u32 ((s.get k).toNat : Int)) W := by
        exact run_index _ 8 _ Tryz.underlying139 _ Tryz.underlying138 rfl (by kernel_rfl) _ k hlt _ (cellsOf_at _ _ _ hlt) _
      have c0 := h.r2.cell (i := 4 * k) (by omega)
      have c1 := h.r2.cell (i := 4 * k + 1) (by omega)
      have c2 := h.r2.cell (i := 4 * k + 2) (by omega)
      have c3 := h.r2.cell (i := 4 * k + 3) (by omega)
      have f0 := h.r2.frozen (4 * k)
      have f1 := h.r2.frozen (4 * k + 1)
      have f2 := h.r2.frozen (4 * k + 2)
      have f3 := h.r2.frozen (4 * k + 3)
      go_wp2
      go_roundw
      case rel => exact ⟨k + 1, by omega, by go_num, h.next⟩
      case measure => simp [intOf]; omega
    · have hr1 := h.r1
      have hr2 : wr.rowIs _ 101 32 (fun j => .int .u8 ((byteOf s j).toNat : Int)) := h.r2.congr (fun j hj => by
        have e : k = 8 := by omega
        simp only [bytesTo, e, if_pos (show j < 4 * 8 by omega)])
      have hbl := h.hb
      clear h
      go_wp2_with (first
        | (refine load_whole (by rfl) 101 (.tmp 3) (by rfl) _ _ _ _ hr2 (by rfl) _ Tryz.underlying101 rfl (by kernel_rfl) ?_)
        | (refine store_whole (by rfl) 101 (.tmp 2) (.tmp 38) (by rfl) (w.heap.size + 1) _ _ _ _ hr1 (by rfl) _ (by rfl) (by kernel_rfl) (size_cellsOf _ _) (cellsOf_at _ _) (fun _ _ => rfl) ?_
           intro w3 hr3 ho3))
      exact bodyPost_ret (results_row rfl _ (w.heap.size + 1) _ _ _ _ (by rfl) hr3 Tryz.underlying101 rfl (by kernel_rfl)) rfl ⟨rfl, ho3.below hbl (by omega)⟩
end Go.Proofs.YtnkjoambhmlnbaaGreatDoor.Sha
namespace Go.Proofs.YtnkjoambhmlnbaaGreatDoor.Aes
open Go Go.RowKit Go.Proofs.YtnkjoambhmlnbaaGreatDoor.Aid
theorem ival {k : IntKind} {x y : Int} (h : x = y) : Value.int k x = Value.int k y := by rw [h]
theorem xor64 (a b : Nat) (ha : a < 65536) (hb : b < 65536) : bits .xor .i64 (a : Int) (b : Int) = ((a ^^^ b : Nat) : Int) := by
  have h1 : BitVec.ofInt 64 (a : Int) = BitVec.ofNat 64 a := by simp
  have h2 : BitVec.ofInt 64 (b : Int) = BitVec.ofNat 64 b := by simp
  show IntKind.i64.wrap ((BitVec.ofInt 64 (a : Int) ^^^ BitVec.ofInt 64 (b : Int)).toNat : Int) = _
  rw [h1, h2, BitVec.toNat_xor, BitVec.toNat_ofNat, BitVec.toNat_ofNat, Nat.mod_eq_of_lt (by omega), Nat.mod_eq_of_lt (by omega)]
  have hx : a ^^^ b < 65536 := Nat.xor_lt_two_pow (n := 16) ha hb
  exact IntWalk.i64_in _ (by omega)
theorem xtime_nat : ∀ x : BitVec 8, (if 255 < 2 * x.toNat then 2 * x.toNat ^^^ 283 else 2 * x.toNat) = (xtime x).toNat := by decide +kernel
theorem bit_nat (b : BitVec 8) (k : Nat) : b.getLsbD k = decide (b.toNat / 2 ^ k % 2 = 1) := by
  rw [BitVec.getLsbD, Nat.testBit_eq_decide_div_mod_eq]
theorem timesTo_end (a b : BitVec 8) (k : Nat) (hk : k ≤ 8) (h : b.toNat / 2 ^ k = 0) : timesTo a b k = times a b := by
  have hz : ∀ j, k ≤ j → b.getLsbD j = false := fun j hj => by
    rw [bit_nat]
    have : b.toNat / 2 ^ j = 0 := by
      rw [Nat.div_eq_zero_iff] at h ⊢
      rcases h with h | h
      · exact absurd h (by have := Nat.pow_pos (n := k) (show 0 < 2 by omega); omega)
      · exact .inr (Nat.lt_of_lt_of_le h (Nat.pow_le_pow_right (by omega) hj))
    rw [this]
    rfl
  have hs : ∀ d, timesTo a b (k + d) = timesTo a b k := by
    intro d
    induction d with
    | zero => rfl
    | succ d ih =>
      show timesTo a b (k + d) ^^^ (if b.getLsbD (k + d) then _ else 0) = _
      rw [ih, hz (k + d) (by omega)]
      simp
  have := hs (8 - k)
  rw [show k + (8 - k) = 8 by omega] at this
  exact this.symm

/-- One bit more. -/
theorem times_next {a b : BitVec 8} {k N X Y : Nat} (H : N = (timesTo a b k).toNat ∧ X = (xpow a k).toNat ∧ Y = b.toNat / 2 ^ k) :
    (if Y % 2 = 1 then N ^^^ X else N) = (timesTo a b (k + 1)).toNat ∧ (if 255 < 2 * X then 2 * X ^^^ 283 else 2 * X) = (xpow a (k + 1)).toNat ∧ Y / 2 = b.toNat / 2 ^ (k + 1) := by
  obtain ⟨rfl, rfl, rfl⟩ := H
  refine ⟨?_, xtime_nat _, by rw [Nat.pow_succ, Nat.div_div_eq_div_mul]⟩
  show _ = (timesTo a b k ^^^ (if b.getLsbD k then xpow a k else 0)).toNat
  rw [bit_nat b k]
  by_cases h : b.toNat / 2 ^ k % 2 = 1
  · rw [if_pos h]; simp [h]
  · rw [if_neg h]; simp [h]
theorem times_left {b : BitVec 8} {k Y : Nat} (hY : Y = b.toNat / 2 ^ k) (h : 0 < Y) : k < 8 := by
  rcases Nat.lt_or_ge k 8 with h8 | h8
  · exact h8
  · have h1 : (2 : Nat) ^ 8 ≤ 2 ^ k := Nat.pow_le_pow_right (by omega) h8
    have h2 := b.isLt
    rw [hY, Nat.div_eq_of_lt (by omega)] at h
    omega

end Go.Proofs.YtnkjoambhmlnbaaGreatDoor.Aes
namespace Go.Proofs.YtnkjoambhmlnbaaGreatDoor.Aes
open Go Go.RowKit Go.Proofs.YtnkjoambhmlnbaaGreatDoor.Aid
def byteRow (n : Nat) (f : Nat → BitVec 8) : Array Value := cellsOf n fun i => .int .u8 ((f i).toNat : Int)
def boxAt (i : Nat) : BitVec 8 := boxL.getD i 0
theorem boxes_zero (t : TypeId) (ht : t = 130) : (Tryz.prog.info? t).map (fun i => (i.zero, i.size)) = some (some (.agg (cellsOf 256 fun _ => .int .u8 0)), 256) := by subst ht; kernel_rfl

section
variable {P : Program} {w : World} {ops : Array Oper} {rest : List Oper} {op : Oper} {a : Act} {Q : Exit → Act → World → Prop}
/-- A literal array, by the cells that it has. -/
theorem build_named (hg : op.guard = none) (t : TypeId) (parts : Array (Nat × Operand)) (ho : op.op = .build t parts) (cells : Array Value)
    (hc : P.built t (parts.map fun (i, x) => (i, a.eval x)).toList = some cells) (h : wpList P ops Q rest (a.put op.dst (.agg cells)) w) : wpList P ops Q (op :: rest) a w :=
  wpList_build hg t parts ho (by rw [hc]; rfl) (by rw [hc]; exact h)
end
end Go.Proofs.YtnkjoambhmlnbaaGreatDoor.Aes
namespace Go.Proofs.YtnkjoambhmlnbaaGreatDoor.Aes
open Go Go.RowKit Go.Proofs.YtnkjoambhmlnbaaGreatDoor.Aid
/-- Block b holds these n bytes, as an array of type t. -/
def RowB (w : World) (b t n : Nat) (f : Nat → BitVec 8) : Prop := w.rowIs b t n (fun j => .int .u8 ((f j).toNat : Int))
theorem zeros16 (Z : Array Value) (hZ : Z = Array.replicate 16 (.int .u8 0)) (i : Nat) (hi : i < 16) : Z[i]? = some (Value.int .u8 0) := by
  subst hZ; simp [hi]
theorem xor8 (x y : BitVec 8) : bits .xor .u8 (x.toNat : Int) (y.toNat : Int) = ((x ^^^ y).toNat : Int) := by
  have h8 : ∀ z : BitVec 8, BitVec.ofInt 8 (z.toNat : Int) = z := fun z => by
    apply BitVec.eq_of_toNat_eq
    rw [BitVec.toNat_ofInt]
    have := z.isLt
    omega
  show IntKind.u8.wrap ((BitVec.ofInt 8 (x.toNat : Int) ^^^ BitVec.ofInt 8 (y.toNat : Int)).toNat : Int) = _
  rw [h8, h8, IntKind.wrap_u8']
  have := (x ^^^ y).isLt
  omega
def setTo (f g : Nat → BitVec 8) (k j : Nat) : BitVec 8 := if j < k then g j else f j
/-- One byte of a row is set. -/
theorem setTo_next {w : World} {b t n : Nat} {f g : Nat → BitVec 8} {k : Nat} (h : RowB w b t n (setTo f g k)) (v : Int) (hv : v = ((g k).toNat : Int)) : RowB (w.setCell ⟨b, k, none⟩ (.int .u8 v)) b t n (setTo f g (k + 1)) := by
  refine World.rowIs.congr (World.rowIs.set h k (.int .u8 v)) (fun i hi => ?_)
  unfold setTo
  by_cases h1 : i = k
  · subst h1
    rw [if_pos rfl, hv, if_pos (by omega)]
  · rw [if_neg h1]
    by_cases h2 : i < k
    · rw [if_pos h2, if_pos (by omega)]
    · rw [if_neg h2, if_neg (by omega)]

end Go.Proofs.YtnkjoambhmlnbaaGreatDoor.Aes
namespace Go.Proofs.YtnkjoambhmlnbaaGreatDoor.Aes
open Go Go.RowKit Go.Proofs.YtnkjoambhmlnbaaGreatDoor.Aid
section
variable {P : Program} {w : World} {ops : Array Oper} {rest : List Oper} {op : Oper} {a : Act} {Q : Exit → Act → World → Prop}
/-- A piece of a row, read behind a guard that lets it. -/
theorem load_row_if (hw : Region.wanted op (yielded ops a.tmps) = true) (ty : TypeId) (x : Operand) (ho : op.op = .load ty x) (g o t n m : Nat) (f : Nat → Value) (h : w.rowIs g t n f)
    (hx : a.eval x = .pointer (some ⟨g, o, none⟩)) (d : TypeDesc) (hu : P.underlying ty = some d) (hd : d.isRow = true) (hi : (P.info? ty).map (·.size) = some m) (hm : o + m ≤ n)
    (hK : wpList P ops Q rest (a.put op.dst (.agg (cellsOf m fun j => f (o + j)))) w) : wpList P ops Q (op :: rest) a w := by
  unfold wpList
  rw [if_pos hw]
  exact .inl (wp_load_mid ty x ho g o hx _ d (row_range h o m hm) hu hd (by simpa using hi) hK)
end
theorem eq16 (f : Blk) (W : World) : (binOp .eql 24 (.agg (byteRow 16 f)) (.agg (byteRow 16 f))).run Tryz.prog W = .ok (.bool true) W :=
  run_eql_same Tryz.underlying24 Tryz.underlying5 (by kernel_rfl) _ (fun i hi => ⟨_, cellsOf_at 16 _ i hi⟩) W
end Go.Proofs.YtnkjoambhmlnbaaGreatDoor.Aes
namespace Go.Proofs.YtnkjoambhmlnbaaGreatDoor.Aes
open Go Go.RowKit Go.Proofs.YtnkjoambhmlnbaaGreatDoor.Aid
theorem keys_zero (t : TypeId) (ht : t = 132) : (Tryz.prog.info? t).map (fun i => (i.zero, i.size)) = some (some (.agg (cellsOf 176 fun _ => .int .u8 0)), 176) := by subst ht; kernel_rfl
/-- The first k round keys, one behind the other. -/
def keysTo (key : Blk) (k t : Nat) : BitVec 8 := if t < 16 * k then roundKey key (t / 16) (t % 16) else 0
theorem keysTo_at (key : Blk) (k i j : Nat) (hi : i < k) (hj : j < 16) : keysTo key k (16 * i + j) = roundKey key i j := by
  unfold keysTo
  rw [if_pos (by omega), show (16 * i + j) / 16 = i by omega, show (16 * i + j) % 16 = j by omega]
theorem keysTo_next (key : Blk) (k t : Nat) (f : Nat → BitVec 8) (hf : Same16 f (roundKey key k)) : (if 16 * k ≤ t ∧ t < 16 * k + 16 then f (t - 16 * k) else keysTo key k t) = keysTo key (k + 1) t := by
  unfold keysTo
  by_cases h1 : t < 16 * k
  · rw [if_neg (by omega), if_pos h1, if_pos (by omega)]
  · by_cases h2 : t < 16 * k + 16
    · rw [if_pos ⟨by omega, h2⟩, if_pos (by omega), hf _ (by omega), show t / 16 = k by omega, show t - 16 * k = t % 16 by omega]
    · rw [if_neg (by omega), if_neg h1, if_neg (by omega)]

/-- The first column, without the power. -/
def preFirst (was : Blk) (r : Nat) : BitVec 8 := was r ^^^ box (was (12 + (r + 1) % 4))
/-- The block under way: the first column, without the power. -/
structure NowRel (key : Blk) (was f : Blk) (b2 b3 b4 b7 b8 k : Nat) (w wr : World) : Prop where
  r2 : wr.rowIs b2 132 176 (fun _ => .int .u8 0)
  r3 : RowB wr b3 130 256 boxAt
  r4 : RowB wr b4 132 176 (keysTo key k)
  r7 : RowB wr b7 24 16 was
  r8 : RowB wr b8 24 16 f
  hb : Below w.heap.size w wr
theorem NowRel.set {key was f g : Blk} {b2 b3 b4 b7 b8 k i : Nat} {w wr : World} {v : Int} (h : NowRel key was f b2 b3 b4 b7 b8 k w wr) (hs : RowB (wr.setCell ⟨b8, i, none⟩ (.int .u8 v)) b8 24 16 g)
    (h2 : b2 ≠ b8) (h3 : b3 ≠ b8) (h4 : b4 ≠ b8) (h7 : b7 ≠ b8) (hw : w.heap.size ≤ b8) : NowRel key was g b2 b3 b4 b7 b8 k w (wr.setCell ⟨b8, i, none⟩ (.int .u8 v)) :=
  ⟨World.rowIs.setOther (a := ⟨b8, i, none⟩) h.r2 h2 _, World.rowIs.setOther (a := ⟨b8, i, none⟩) h.r3 h3 _, World.rowIs.setOther (a := ⟨b8, i, none⟩) h.r4 h4 _, World.rowIs.setOther (a := ⟨b8, i, none⟩) h.r7 h7 _, hs, h.hb.setCell (p := ⟨b8, i, none⟩) hw _⟩

theorem NowRel.drew {key was f : Blk} {b2 b3 b4 b7 b8 k : Nat} {w wr : World} (h : NowRel key was f b2 b3 b4 b7 b8 k w wr) : NowRel key was f b2 b3 b4 b7 b8 k w wr.drew := ⟨h.r2, h.r3, h.r4, h.r7, h.r8, h.hb.drew⟩
theorem nextKey_step (was : Blk) (p : BitVec 8) (i : Nat) (h4 : 4 ≤ i) : nextKey was p i = was i ^^^ nextKey was p (i - 4) := by
  unfold nextKey
  obtain ⟨c, hc⟩ : ∃ c, i / 4 = c + 1 := ⟨i / 4 - 1, by omega⟩
  rw [hc, show (i - 4) / 4 = c by omega, show (i - 4) % 4 = i % 4 by omega]
  show was (4 * (c + 1) + i % 4) ^^^ _ = _
  rw [show 4 * (c + 1) + i % 4 = i by omega]
/-- The power comes in. -/
theorem first_power (was : Blk) (p : BitVec 8) {w : World} {b t : Nat} (h : RowB w b t 16 (setTo (fun _ => 0) (preFirst was) 4)) (v : Int) (hv : v = ((preFirst was 0 ^^^ p).toNat : Int)) : RowB (w.setCell ⟨b, 0, none⟩ (.int .u8 v)) b t 16 (setTo (fun _ => 0) (nextKey was p) 4) := by
  refine World.rowIs.congr (World.rowIs.set h 0 (.int .u8 v)) (fun i hi => ?_)
  have key : ∀ j, j < 4 → nextKey was p j = preFirst was j ^^^ (if j = 0 then p else 0) := fun j hj => by
    unfold nextKey
    rw [show j / 4 = 0 by omega, show j % 4 = j by omega]
    rfl
  unfold setTo
  by_cases h1 : i = 0
  · subst h1
    rw [if_pos rfl, hv, if_pos (by omega), key 0 (by omega), if_pos rfl]
  · rw [if_neg h1]
    by_cases h2 : i < 4
    · rw [if_pos h2, if_pos h2, key i h2, if_neg h1]; simp
    · rw [if_neg h2, if_neg h2]

/-- What Keys holds at its loop's head: the first k round keys are there. -/
structure KeysRel (key : Blk) (b2 b3 b4 k : Nat) (w wr : World) : Prop where
  r2 : wr.rowIs b2 132 176 (fun _ => .int .u8 0)
  r3 : RowB wr b3 130 256 boxAt
  r4 : RowB wr b4 132 176 (keysTo key k)
  hb : Below w.heap.size w wr

end Go.Proofs.YtnkjoambhmlnbaaGreatDoor.Aes
namespace Go.Proofs.YtnkjoambhmlnbaaGreatDoor.Aes
open Go Go.RowKit Go.Proofs.YtnkjoambhmlnbaaGreatDoor.Aid
/-- What Encrypt holds throughout: the result's place, the S-box, the round keys, the block. -/
structure EncRows (key cur : Blk) (r b5 b6 b7 : Nat) (w wr : World) : Prop where
  r4 : wr.rowIs r 24 16 (fun _ => .int .u8 0)
  r5 : RowB wr b5 130 256 boxAt
  r6 : RowB wr b6 132 176 (keysTo key 11)
  r7 : RowB wr b7 24 16 cur
  hb : Below w.heap.size w wr
theorem EncRows.below {key cur : Blk} {r b5 b6 b7 : Nat} {w wr wr' : World} (h : EncRows key cur r b5 b6 b7 w wr) (hb : Below wr.heap.size wr wr') : EncRows key cur r b5 b6 b7 w wr' :=
  ⟨h.r4.of_block (hb.block _ h.r4.lt), World.rowIs.of_block h.r5 (hb.block _ (World.rowIs.lt h.r5)), World.rowIs.of_block h.r6 (hb.block _ (World.rowIs.lt h.r6)), World.rowIs.of_block h.r7 (hb.block _ (World.rowIs.lt h.r7)), h.hb.trans (hb.mono h.hb.size)⟩
theorem EncRows.set {key cur : Blk} {r b5 b6 b7 b i : Nat} {w wr : World} (v : Value) (h : EncRows key cur r b5 b6 b7 w wr) (h4 : r ≠ b) (h5 : b5 ≠ b) (h6 : b6 ≠ b) (h7 : b7 ≠ b) (hw : w.heap.size ≤ b) : EncRows key cur r b5 b6 b7 w (wr.setCell ⟨b, i, none⟩ v) :=
  ⟨World.rowIs.setOther (a := ⟨b, i, none⟩) h.r4 h4 _, World.rowIs.setOther (a := ⟨b, i, none⟩) h.r5 h5 _, World.rowIs.setOther (a := ⟨b, i, none⟩) h.r6 h6 _, World.rowIs.setOther (a := ⟨b, i, none⟩) h.r7 h7 _, h.hb.setCell (p := ⟨b, i, none⟩) hw _⟩
theorem EncRows.drew {key cur : Blk} {r b5 b6 b7 : Nat} {w wr : World} (h : EncRows key cur r b5 b6 b7 w wr) : EncRows key cur r b5 b6 b7 w wr.drew := ⟨h.r4, h.r5, h.r6, h.r7, h.hb.drew⟩

/-- Numbers as the walk meets them, for one of the three further rows. -/
theorem row_facts (i j n m : Nat) (N : Int) (hN : N = (n : Int)) (hi : i < 4) (hj : j < 4) (hn : n < 4) (hm : m = (j + n) % 4) :
    ((j : Int) + N).tmod 4 = (m : Int) ∧ ((j : Int) + N) % 4 = (m : Int) ∧ IntKind.i64.wrap ((j : Int) + N) = (j : Int) + N ∧ IntKind.i64.wrap (4 * (i : Int) + (m : Int)) = 4 * (i : Int) + (m : Int) ∧
    (0 : Int) ≤ 4 * (i : Int) + (m : Int) ∧ 4 * (i : Int) + (m : Int) < 16 ∧ (4 * (i : Int) + (m : Int)).toNat = 4 * i + m := by
  subst hN
  have h1 : ((j : Int) + (n : Int)) % 4 = (m : Int) := by omega
  refine ⟨by rw [Int.tmod_eq_emod_of_nonneg (by omega)]; exact h1, h1, IntWalk.i64_in _ (by omega), IntWalk.i64_in _ (by omega), by omega, by omega, by omega⟩
theorem row_first (i j : Nat) (hi : i < 4) (hj : j < 4) :
    IntKind.i64.wrap (4 * (i : Int)) = 4 * (i : Int) ∧ IntKind.i64.wrap (4 * (i : Int) + (j : Int)) = 4 * (i : Int) + (j : Int) ∧ (0 : Int) ≤ 4 * (i : Int) + (j : Int) ∧ 4 * (i : Int) + (j : Int) < 16 ∧ (4 * (i : Int) + (j : Int)).toNat = 4 * i + j :=
  ⟨IntWalk.i64_in _ (by omega), IntWalk.i64_in _ (by omega), by omega, by omega, by omega⟩

end Go.Proofs.YtnkjoambhmlnbaaGreatDoor.Aes
namespace Go.Proofs.YtnkjoambhmlnbaaGreatDoor.Aes
open Go Go.RowKit Go.Proofs.YtnkjoambhmlnbaaGreatDoor.Aid

theorem double_nat : ∀ a : BitVec 8, bits .xor .u8 ((a.toNat : Int) * 2 % 256) ((a.toNat : Int) / 128 * 27) = ((xtime a).toNat : Int) := by decide +kernel
set_option maxRecDepth 100000 in
set_option maxHeartbeats 1000000 in
theorem double_any (a : BitVec 8) (w : World) :
    Calls Tryz.prog 100 #[.int .u8 (a.toNat : Int)] w fun x w' => x = .returned (.int .u8 ((xtime a).toNat : Int)) ∧ w' = w := by
  go_enter Tryz.func100, Tryz.ntmps100
  go_wp2
  go_ret
  exact ⟨by rw [double_nat]; rfl, rfl⟩
end Go.Proofs.YtnkjoambhmlnbaaGreatDoor.Aes

namespace Go.Proofs.YtnkjoambhmlnbaaGreatDoor.Aes
open Go Go.RowKit Go.Proofs.YtnkjoambhmlnbaaGreatDoor.Aid

set_option maxRecDepth 100000 in
set_option maxHeartbeats 4000000 in
theorem values_any (w : World) :
    Calls Tryz.prog 90 #[] w fun x w' => x = .returned (.agg (byteRow 256 boxAt)) ∧ Below w.heap.size w w' := by
  obtain ⟨hz1, _⟩ := zero_of_info (boxes_zero _ rfl)
  go_enter Tryz.func90, Tryz.ntmps90
  go_wp2_with (first
    | (refine build_named (by rfl) 130 _ (by rfl) (byteRow 256 boxAt) (by kernel_rfl) ?_)
    | (refine store_whole (by rfl) 130 (.tmp 0) (.tmp 1) (by rfl) w.heap.size _ 256 (fun _ => .int .u8 0) (fun j => .int .u8 ((boxAt j).toNat : Int)) (by exact row_new w _ _ 256 _ (size_cellsOf _ _) (cellsOf_at _ _)) (by rfl) _ (by rfl) (by kernel_rfl) (size_cellsOf _ _) (cellsOf_at _ _) (fun _ _ => rfl) ?_
       intro w2 hr2 ho2))
  exact bodyPost_ret (results_row rfl _ w.heap.size _ _ _ _ (by rfl) hr2 Tryz.underlying130 rfl (by kernel_rfl)) rfl ⟨rfl, ho2.below ((Below.refl _ _).alloc (Nat.le_refl _) _) (Nat.le_refl _)⟩
end Go.Proofs.YtnkjoambhmlnbaaGreatDoor.Aes

namespace Go.Proofs.YtnkjoambhmlnbaaGreatDoor.Aes
open Go Go.RowKit Go.Proofs.YtnkjoambhmlnbaaGreatDoor.Aid

/-- The call's three blocks: what came in, the result's place, what is under way. -/
structure Three (was f : Blk) (w wr : World) : Prop where
  r0 : RowB wr w.heap.size 24 16 was
  r1 : wr.rowIs (w.heap.size + 1) 24 16 (fun _ => .int .u8 0)
  r2 : RowB wr (w.heap.size + 2) 24 16 f
  hb : Below w.heap.size w wr
theorem three_new (was : Blk) (X Z : Array Value) (hX : X.size = 16) (hXi : ∀ i, i < 16 → X[i]? = some (.int .u8 ((was i).toNat : Int))) (hZ : Z = Array.replicate 16 (.int .u8 0)) (w : World) :
    ∃ W, W = ((w.alloc (.cells X 24)).alloc (.cells Z 24)).alloc (.cells Z 24) ∧ Three was (fun _ => 0) w W := by
  have s1 : (w.alloc (.cells X 24)).heap.size = w.heap.size + 1 := by simp
  have s2 : ((w.alloc (.cells X 24)).alloc (.cells Z 24)).heap.size = w.heap.size + 2 := by simp
  have r1 := ((row_new w X 24 16 (fun j => .int .u8 ((was j).toNat : Int)) hX hXi).alloc (.cells Z 24)).alloc (.cells Z 24)
  have r2 := (row_new (w.alloc (.cells X 24)) Z 24 16 _ (by rw [hZ]; simp) (zeros16 Z hZ)).alloc (.cells Z 24)
  have r3 := row_new ((w.alloc (.cells X 24)).alloc (.cells Z 24)) Z 24 16 _ (by rw [hZ]; simp) (zeros16 Z hZ)
  rw [s1] at r2
  rw [s2] at r3
  exact ⟨_, rfl, r1, r2, r3, (((Below.refl _ _).alloc (Nat.le_refl _) _).alloc (by simp) _).alloc (by rw [s2]; omega) _⟩
theorem Three.set {was f g : Blk} {i : Nat} {w wr : World} {v : Int} (h : Three was f w wr) (hs : RowB (wr.setCell ⟨w.heap.size + 2, i, none⟩ (.int .u8 v)) (w.heap.size + 2) 24 16 g) :
    Three was g w (wr.setCell ⟨w.heap.size + 2, i, none⟩ (.int .u8 v)) :=
  ⟨World.rowIs.setOther (a := ⟨w.heap.size + 2, i, none⟩) h.r0 (by simp) _, World.rowIs.setOther (a := ⟨w.heap.size + 2, i, none⟩) h.r1 (by simp) _, hs, h.hb.setCell (p := ⟨w.heap.size + 2, i, none⟩) (by simp) _⟩
theorem Three.drew {was f : Blk} {w wr : World} (h : Three was f w wr) : Three was f w wr.drew := ⟨h.r0, h.r1, h.r2, h.hb.drew⟩
theorem Three.congr {was f g : Blk} {w wr : World} (h : Three was f w wr) (hf : Same16 f g) : Three was g w wr := ⟨h.r0, h.r1, World.rowIs.congr h.r2 (fun i hi => by rw [hf i hi]), h.hb⟩
/-- The S-box, where it lay ahead of the call. -/
theorem Three.box {was f : Blk} {w wr : World} {B : Nat} (h : Three was f w wr) (hB : RowB w B 130 256 boxAt) : RowB wr B 130 256 boxAt := World.rowIs.of_block hB (h.hb.block _ (World.rowIs.lt hB))

theorem subShift_five (cur : Blk) (k : Nat) : subShift cur k = Aes.box (cur (5 * k % 16)) := by
  unfold subShift
  rw [show 4 * ((k / 4 + k % 4) % 4) + k % 4 = 5 * k % 16 by omega]

set_option maxRecDepth 100000 in
set_option maxHeartbeats 1000000 in
theorem substitute_any (cur : Blk) (X : Array Value) (hX : X.size = 16) (hXi : ∀ i, i < 16 → X[i]? = some (.int .u8 ((cur i).toNat : Int))) (w : World) (B : Nat) (hB : RowB w B 130 256 boxAt) :
    Calls Tryz.prog 93 #[.pointer (some ⟨B, 0, none⟩), .agg X] w fun r w' => r = .returned (.agg (byteRow 16 (subShift cur))) ∧ Below w.heap.size w w' := by
  have hr := Lib.hid (fun Z hZ => three_new cur X Z hX hXi hZ w)
  have HB := Lib.hid hB
  have hlt0 : B < w.heap.size := World.rowIs.lt hB
  clear hXi hB
  go_enter Tryz.func93, Tryz.ntmps93
  go_wp2
  obtain ⟨W, hW, h0⟩ := hr.out _ rfl
  change Code.wp _ _ _ _ (((w.alloc (.cells X 24)).alloc (.cells (Array.replicate 16 (.int .u8 0)) 24)).alloc (.cells (Array.replicate 16 (.int .u8 0)) 24))
  rw [← hW]
  clear hW hr
  go_loopw [6, 7] (fun _ i wr => ∃ k : Nat, k ≤ 16 ∧ i = .int .i64 (k : Int) ∧ Hid (Three cur (setTo (fun _ => 0) (subShift cur) k) w wr)) (fun _ i _ => 16 - (intOf i).toNat)
  case atStart => exact ⟨0, by omega, rfl, h0.congr (fun _ _ => rfl)⟩
  case round =>
    clear h0
    obtain ⟨k, hk, rfl, h⟩ := hrel
    by_cases hlt : k < 16
    · obtain ⟨m, hm⟩ : ∃ m, m = 5 * k % 16 := ⟨_, rfl⟩
      have hm16 : m < 16 := by omega
      have c0 : wr.cell? ⟨w.heap.size, m, none⟩ = some (.int .u8 ((cur m).toNat : Int)) := World.rowIs.cell h.out.r0 hm16
      have hby := (cur m).isLt
      have c1 : wr.cell? ⟨B, (cur m).toNat, none⟩ = some (.int .u8 ((Aes.box (cur m)).toNat : Int)) := World.rowIs.cell (h.out.box HB.out) hby
      have c2 : wr.cell? ⟨w.heap.size + 2, k, none⟩ = some (.int .u8 ((0 : BitVec 8).toNat : Int)) := by
        rw [World.rowIs.cell h.out.r2 hlt]
        unfold setTo
        rw [if_neg (by omega)]
      have f0 : wr.frozen? ⟨w.heap.size + 2, k, none⟩ = false := World.rowIs.frozen h.out.r2 k
      have hnx : Hid (∀ v : Int, v = ((subShift cur k).toNat : Int) → Three cur (setTo (fun _ => 0) (subShift cur) (k + 1)) w (wr.setCell ⟨w.heap.size + 2, k, none⟩ (.int .u8 v))) := fun v hv => h.out.set (setTo_next h.out.r2 v hv)
      have hsub : Hid (((Aes.box (cur m)).toNat : Int) = ((subShift cur k).toNat : Int)) := by show _ = _; rw [subShift_five cur k, hm]
      have e0 : IntKind.i64.wrap (5 * (k : Int)) = 5 * (k : Int) := IntWalk.i64_in _ (by omega)
      have e1 : (5 * (k : Int)).tmod 16 = (m : Int) := by rw [Int.tmod_eq_emod_of_nonneg (by omega)]; omega
      have e2 : (5 * (k : Int)) % 16 = (m : Int) := by omega
      have q0 : (0 : Int) ≤ (k : Int) := by omega
      have q1 : (k : Int) < 16 := by omega
      have q2 : (0 : Int) ≤ (m : Int) := by omega
      have q3 : (m : Int) < 16 := by omega
      have q9 : (0 : Int) ≤ ((cur m).toNat : Int) := by omega
      have q10 : ((cur m).toNat : Int) < 256 := by omega
      clear hm hby
      go_wp2
      refine region_tail 11 (by kernel_rfl) (by kernel_rfl) ?_
      simp only [List.take_succ_cons, List.take_zero, List.drop_succ_cons, List.drop_zero]
      repeat still_step
      refine wpStill_nil ?_
      go_wp2
      exact ⟨⟨k + 1, by omega, ival (by omega), (hnx.out _ hsub.out).drew⟩, by simp [intOf]; omega⟩
    · have q1 : ¬ (k : Int) < 16 := by omega
      have hr : wr.rowIs (w.heap.size + 2) 24 16 (fun j => .int .u8 ((subShift cur j).toNat : Int)) := World.rowIs.congr h.out.r2 (fun j hj => by unfold setTo; rw [if_pos (by omega)])
      have hz := h.out.r1
      have hb := h.out.hb
      go_wp2_with (first
        | (refine load_whole (by rfl) 24 (.tmp 5) (by rfl) _ _ _ _ hr (by rfl) _ Tryz.underlying24 rfl (by kernel_rfl) ?_)
        | (refine store_whole (by rfl) 24 (.tmp 4) (.tmp 22) (by rfl) (w.heap.size + 1) _ 16 _ _ hz (by rfl) _ (by rfl) (by kernel_rfl) (size_cellsOf _ _) (cellsOf_at _ _) (fun _ _ => rfl) ?_
           intro w6 hr6 ho6))
      exact bodyPost_ret (results_row rfl _ (w.heap.size + 1) _ _ _ _ (by rfl) hr6 Tryz.underlying24 rfl (by kernel_rfl)) rfl ⟨rfl, ho6.below hb (by omega)⟩
end Go.Proofs.YtnkjoambhmlnbaaGreatDoor.Aes

namespace Go.Proofs.YtnkjoambhmlnbaaGreatDoor.Aes
open Go Go.RowKit Go.Proofs.YtnkjoambhmlnbaaGreatDoor.Aid

set_option maxRecDepth 100000 in
set_option maxHeartbeats 1000000 in
theorem add_any (x y : Nat → BitVec 8) (X Y : Array Value) (hX : X.size = 16) (hXi : ∀ i, i < 16 → X[i]? = some (.int .u8 ((x i).toNat : Int))) (hY : Y.size = 16) (hYi : ∀ i, i < 16 → Y[i]? = some (.int .u8 ((y i).toNat : Int))) (w : World) :
    Calls Tryz.prog 92 #[.agg X, .agg Y] w fun r w' => r = .returned (.agg (byteRow 16 (addKey x y))) ∧ Below w.heap.size w w' := by
  have hr : ∀ (Z : Array Value), Z = Array.replicate 16 (.int .u8 0) → ∃ W, W = ((w.alloc (.cells X 24)).alloc (.cells Y 24)).alloc (.cells Z 24) ∧ RowB W w.heap.size 24 16 (setTo x (addKey x y) 0) ∧ RowB W (w.heap.size + 1) 24 16 y ∧ W.rowIs (w.heap.size + 2) 24 16 (fun _ => .int .u8 0) ∧ Below w.heap.size w W := fun Z hZ => by
    have s1 : (w.alloc (.cells X 24)).heap.size = w.heap.size + 1 := by simp
    have s2 : ((w.alloc (.cells X 24)).alloc (.cells Y 24)).heap.size = w.heap.size + 2 := by simp
    have r1 := ((row_new w X 24 16 (fun j => .int .u8 ((setTo x (addKey x y) 0 j).toNat : Int)) hX (fun i hi => by rw [hXi i hi]; rfl)).alloc (.cells Y 24)).alloc (.cells Z 24)
    have r2 := (row_new (w.alloc (.cells X 24)) Y 24 16 (fun j => .int .u8 ((y j).toNat : Int)) hY hYi).alloc (.cells Z 24)
    have r3 := row_new ((w.alloc (.cells X 24)).alloc (.cells Y 24)) Z 24 16 _ (by rw [hZ]; simp) (zeros16 Z hZ)
    rw [s1] at r2
    rw [s2] at r3
    exact ⟨_, rfl, r1, r2, r3, (((Below.refl _ _).alloc (Nat.le_refl _) _).alloc (by simp) _).alloc (by rw [s2]; omega) _⟩
  clear hXi hYi
  go_enter Tryz.func92, Tryz.ntmps92
  go_wp2
  obtain ⟨W, hW, h0, h1, h2, hb⟩ := hr _ rfl
  change Code.wp _ _ _ _ (((w.alloc (.cells X 24)).alloc (.cells Y 24)).alloc (.cells (Array.replicate 16 (.int .u8 0)) 24))
  rw [← hW]
  clear hW hr
  go_loopw [5, 6] (fun _ i wr => ∃ k : Nat, k ≤ 16 ∧ i = .int .i64 (k : Int) ∧ Hid (RowB wr w.heap.size 24 16 (setTo x (addKey x y) k)) ∧ Hid (RowB wr (w.heap.size + 1) 24 16 y) ∧ Hid (wr.rowIs (w.heap.size + 2) 24 16 (fun _ => .int .u8 0)) ∧ Below w.heap.size w wr) (fun _ i _ => 16 - (intOf i).toNat)
  case atStart => exact ⟨0, by omega, rfl, h0, h1, h2, hb⟩
  case round =>
    clear h0 h1 h2 hb
    obtain ⟨k, hk, rfl, h0, h1, h2, hb⟩ := hrel
    by_cases hlt : k < 16
    · have c0 : wr.cell? ⟨w.heap.size, k, none⟩ = some (.int .u8 ((x k).toNat : Int)) := by
        rw [World.rowIs.cell h0.out hlt]
        unfold setTo
        rw [if_neg (by omega)]
      have c1 : wr.cell? ⟨w.heap.size + 1, k, none⟩ = some (.int .u8 ((y k).toNat : Int)) := World.rowIs.cell h1.out hlt
      have f0 : wr.frozen? ⟨w.heap.size, k, none⟩ = false := World.rowIs.frozen h0.out k
      have q0 : (0 : Int) ≤ (k : Int) := by omega
      have q1 : (k : Int) < 16 := by omega
      go_wp2
      refine region_tail 8 (by kernel_rfl) (by kernel_rfl) ?_
      simp only [List.take_succ_cons, List.take_zero, List.drop_succ_cons, List.drop_zero]
      repeat still_step
      refine wpStill_nil ?_
      go_wp2
      exact ⟨⟨k + 1, by omega, ival (by omega), setTo_next h0.out _ (xor8 _ _), World.rowIs.setOther (a := ⟨w.heap.size, k, none⟩) h1.out (by simp) _, World.rowIs.setOther (a := ⟨w.heap.size, k, none⟩) h2.out (by simp) _, (hb.setCell (p := ⟨w.heap.size, k, none⟩) (by simp) _).drew⟩, by simp [intOf]; omega⟩
    · have q1 : ¬ (k : Int) < 16 := by omega
      have hr : wr.rowIs w.heap.size 24 16 (fun j => .int .u8 ((addKey x y j).toNat : Int)) := World.rowIs.congr h0.out (fun j hj => by unfold setTo; rw [if_pos (by omega)])
      have hz := h2.out
      go_wp2_with (first
        | (refine load_whole (by rfl) 24 (.tmp 2) (by rfl) _ _ _ _ hr (by rfl) _ Tryz.underlying24 rfl (by kernel_rfl) ?_)
        | (refine store_whole (by rfl) 24 (.tmp 4) (.tmp 18) (by rfl) (w.heap.size + 2) _ 16 _ _ hz (by rfl) _ (by rfl) (by kernel_rfl) (size_cellsOf _ _) (cellsOf_at _ _) (fun _ _ => rfl) ?_
           intro w6 hr6 ho6))
      exact bodyPost_ret (results_row rfl _ (w.heap.size + 2) _ _ _ _ (by rfl) hr6 Tryz.underlying24 rfl (by kernel_rfl)) rfl ⟨rfl, ho6.below hb (by omega)⟩
end Go.Proofs.YtnkjoambhmlnbaaGreatDoor.Aes
namespace Go.Proofs.YtnkjoambhmlnbaaGreatDoor.Aes
open Go Go.RowKit Go.Proofs.YtnkjoambhmlnbaaGreatDoor.Aid

/-- The block under way, once the power has come in. -/
def withPower (was : Blk) (p : BitVec 8) (j : Nat) : BitVec 8 := if j = 0 then was 0 ^^^ p else was j
theorem nextKey_first (was : Blk) (p : BitVec 8) (r : Nat) (hr : r < 4) : withPower was p r ^^^ Aes.box (was (12 + (r + 1) % 4)) = Aes.nextKey was p r := by
  have h1 : Aes.nextKey was p r = was r ^^^ Aes.box (was (12 + (r + 1) % 4)) ^^^ (if r = 0 then p else 0) := by
    unfold Aes.nextKey
    rw [show r / 4 = 0 by omega, show r % 4 = r by omega]
    rfl
  rw [h1]
  unfold withPower
  by_cases h0 : r = 0
  · subst h0
    rw [if_pos rfl, if_pos rfl]
    ac_rfl
  · rw [if_neg h0, if_neg h0]
    exact (BitVec.xor_zero).symm
theorem power_in (was : Blk) (p : BitVec 8) {w : World} {b t : Nat} (h : RowB w b t 16 was) (v : Int) (hv : v = ((was 0 ^^^ p).toNat : Int)) : RowB (w.setCell ⟨b, 0, none⟩ (.int .u8 v)) b t 16 (setTo (withPower was p) (Aes.nextKey was p) 0) := by
  refine World.rowIs.congr (World.rowIs.set h 0 (.int .u8 v)) (fun i hi => ?_)
  unfold setTo withPower
  by_cases h1 : i = 0
  · subst h1
    rw [if_pos rfl, hv, if_neg (by omega), if_pos rfl]
  · rw [if_neg h1, if_neg (by omega), if_neg h1]

set_option maxRecDepth 100000 in
set_option maxHeartbeats 1000000 in
theorem nextKey_any (was : Blk) (p : BitVec 8) (X : Array Value) (hX : X.size = 16) (hXi : ∀ i, i < 16 → X[i]? = some (.int .u8 ((was i).toNat : Int))) (w : World) (B : Nat) (hB : RowB w B 130 256 boxAt) :
    Calls Tryz.prog 99 #[.pointer (some ⟨B, 0, none⟩), .agg X, .int .u8 (p.toNat : Int)] w fun r w' => r = .returned (.agg (byteRow 16 (Aes.nextKey was p))) ∧ Below w.heap.size w w' := by
  have HB := Lib.hid hB
  have hlt0 : B < w.heap.size := World.rowIs.lt hB
  have hr : ∀ (Z : Array Value), Z = Array.replicate 16 (.int .u8 0) → ∃ W, W = (w.alloc (.cells X 24)).alloc (.cells Z 24) ∧ W.heap.size = w.heap.size + 2 ∧ RowB W w.heap.size 24 16 was ∧ W.rowIs (w.heap.size + 1) 24 16 (fun _ => .int .u8 0) ∧ Below w.heap.size w W := fun Z hZ => by
    have s1 : (w.alloc (.cells X 24)).heap.size = w.heap.size + 1 := by simp
    have r1 := (row_new w X 24 16 (fun j => .int .u8 ((was j).toNat : Int)) hX hXi).alloc (.cells Z 24)
    have r2 := row_new (w.alloc (.cells X 24)) Z 24 16 _ (by rw [hZ]; simp) (zeros16 Z hZ)
    rw [s1] at r2
    exact ⟨_, rfl, by simp, r1, r2, ((Below.refl _ _).alloc (Nat.le_refl _) _).alloc (by simp) _⟩
  obtain ⟨W, hW, hs, h0, h1, hb⟩ := hr _ rfl
  clear hXi hB hr
  go_enter Tryz.func99, Tryz.ntmps99
  go_wp2_with (first
    | (change wpList _ _ _ _ _ ((w.alloc (.cells X 24)).alloc (.cells (Array.replicate 16 (.int .u8 0)) 24))
       rw [← hW]
       clear hW
       refine load_whole (by rfl) 24 (.tmp 4) (by rfl) _ _ _ _ h0 (by rfl) _ Tryz.underlying24 rfl (by kernel_rfl) ?_)
    | (refine store_whole (by rfl) 24 (.tmp 7) (.tmp 10) (by rfl) (w.heap.size + 2) _ 16 (fun _ => .int .u8 0) (fun j => .int .u8 ((was j).toNat : Int)) (by rw [← hs]; exact row_new W _ _ 16 _ (by rfl) (zeros16 _ (by rfl))) (by rfl) _ (by rfl) (by kernel_rfl) (size_cellsOf _ _) (cellsOf_at _ _) (fun _ _ => rfl) ?_
       intro w3 hr3 ho3
       have T3 : Hid (Three was was w w3) := ⟨ho3.row (World.rowIs.alloc h0 _) (by omega), ho3.row (h1.alloc _) (by omega), hr3, ho3.below (hb.alloc hb.size _) (by omega)⟩
       have c0 : w3.cell? ⟨w.heap.size + 2, 0, none⟩ = some (.int .u8 ((was 0).toNat : Int)) := World.rowIs.cell hr3 (by omega)
       have f0 : w3.frozen? ⟨w.heap.size + 2, 0, none⟩ = false := World.rowIs.frozen hr3 0
       clear h0 h1 hb hs hr3 ho3))
  have h4 := T3.out.set (power_in was p T3.out.r2 _ (xor8 (was 0) p))
  clear c0 f0 T3
  generalize w3.setCell ⟨w.heap.size + 2, 0, none⟩ (.int .u8 (bits .xor .u8 ((was 0).toNat : Int) (p.toNat : Int))) = w4 at *
  obtain ⟨V, hV⟩ : ∃ V : Int, V = bits .xor .u8 ((was 0).toNat : Int) (p.toNat : Int) := ⟨_, rfl⟩
  rw [← hV]
  clear hV
  go_loopw [8, 16] (fun _ r wr => ∃ k : Nat, k ≤ 4 ∧ r = .int .i64 (k : Int) ∧ Hid (Three was (setTo (withPower was p) (Aes.nextKey was p) k) w wr)) (fun _ r _ => 4 - (intOf r).toNat)
  case atStart => exact ⟨0, by omega, rfl, h4⟩
  case round =>
    clear h4
    obtain ⟨i, hi, rfl, h⟩ := hrel
    by_cases hi4 : i < 4
    · obtain ⟨m, hm⟩ : ∃ m, m = (i + 1) % 4 := ⟨_, rfl⟩
      have hm4 : m < 4 := by omega
      have c0 : wr.cell? ⟨w.heap.size + 2, i, none⟩ = some (.int .u8 ((withPower was p i).toNat : Int)) := by
        rw [World.rowIs.cell h.out.r2 (show i < 16 by omega)]
        unfold setTo
        rw [if_neg (by omega)]
      have c1 : wr.cell? ⟨w.heap.size, 12 + m, none⟩ = some (.int .u8 ((was (12 + m)).toNat : Int)) := World.rowIs.cell h.out.r0 (by omega)
      have hby := (was (12 + m)).isLt
      have c2 : wr.cell? ⟨B, (was (12 + m)).toNat, none⟩ = some (.int .u8 ((Aes.box (was (12 + m))).toNat : Int)) := World.rowIs.cell (h.out.box HB.out) hby
      have f3 : wr.frozen? ⟨w.heap.size + 2, i, none⟩ = false := World.rowIs.frozen h.out.r2 i
      have hnx : Hid (∀ v : Int, v = ((Aes.nextKey was p i).toNat : Int) → Three was (setTo (withPower was p) (Aes.nextKey was p) (i + 1)) w (wr.setCell ⟨w.heap.size + 2, i, none⟩ (.int .u8 v))) := fun v hv => h.out.set (setTo_next h.out.r2 v hv)
      have x1 := xor8 (withPower was p i) (Aes.box (was (12 + m)))
      rw [hm, nextKey_first was p i hi4, ← hm] at x1
      have e1 : ((i : Int) + 1).tmod 4 = (m : Int) := by rw [Int.tmod_eq_emod_of_nonneg (by omega)]; omega
      have e2 : ((i : Int) + 1) % 4 = (m : Int) := by omega
      have q3 : (i : Int) < 4 := by omega
      have q4 : (0 : Int) ≤ (i : Int) := by omega
      have q5 : (i : Int) < 16 := by omega
      have q6 : (0 : Int) ≤ 12 + (m : Int) := by omega
      have q7 : 12 + (m : Int) < 16 := by omega
      have q8 : (12 + (m : Int)).toNat = 12 + m := by omega
      have q9 : (0 : Int) ≤ ((was (12 + m)).toNat : Int) := by omega
      have q10 : ((was (12 + m)).toNat : Int) < 256 := by omega
      have w1 : IntKind.i64.wrap ((i : Int) + 1) = (i : Int) + 1 := IntWalk.i64_in _ (by omega)
      have w2 : IntKind.i64.wrap (12 + (m : Int)) = 12 + (m : Int) := IntWalk.i64_in _ (by omega)
      clear hm h hby
      go_wp2
      refine region_tail 15 (by kernel_rfl) (by kernel_rfl) ?_
      simp only [List.take_succ_cons, List.take_zero, List.drop_succ_cons, List.drop_zero]
      repeat still_step
      refine wpStill_nil ?_
      go_wp2
      exact ⟨⟨i + 1, by omega, ival (by omega), (hnx.out _ rfl).drew⟩, by simp [intOf]; omega⟩
    · have q3 : ¬ (i : Int) < 4 := by omega
      have hi4' : i = 4 := by omega
      rw [hi4'] at h
      clear hi4'
      go_wp2
      obtain ⟨I0, hI0⟩ : ∃ I0 : Int, I0 = (i : Int) := ⟨_, rfl⟩
      rw [← hI0]
      clear hI0
      have h4 := h.out
      clear h q3 hi hi4
      go_loopw [9] (fun r wr' => ∃ j : Nat, 4 ≤ j ∧ j ≤ 16 ∧ r = .int .i64 (j : Int) ∧ Hid (Three was (setTo (withPower was p) (Aes.nextKey was p) j) w wr')) (fun r _ => 16 - (intOf r).toNat)
      case atStart => exact ⟨4, by omega, by omega, rfl, h4⟩
      case round =>
        clear h4
        obtain ⟨j, hj4, hj, rfl, h⟩ := hrel
        by_cases hj16 : j < 16
        · have c0 : wr.cell? ⟨w.heap.size + 2, j, none⟩ = some (.int .u8 ((was j).toNat : Int)) := by
            rw [World.rowIs.cell h.out.r2 hj16]
            unfold setTo withPower
            rw [if_neg (by omega), if_neg (by omega)]
          have c1 : wr.cell? ⟨w.heap.size + 2, j - 4, none⟩ = some (.int .u8 ((Aes.nextKey was p (j - 4)).toNat : Int)) := by
            rw [World.rowIs.cell h.out.r2 (show j - 4 < 16 by omega)]
            unfold setTo
            rw [if_pos (by omega)]
          have f3 : wr.frozen? ⟨w.heap.size + 2, j, none⟩ = false := World.rowIs.frozen h.out.r2 j
          have hnx : Hid (∀ v : Int, v = ((Aes.nextKey was p j).toNat : Int) → Three was (setTo (withPower was p) (Aes.nextKey was p) (j + 1)) w (wr.setCell ⟨w.heap.size + 2, j, none⟩ (.int .u8 v))) := fun v hv => h.out.set (setTo_next h.out.r2 v hv)
          have x1 := xor8 (was j) (Aes.nextKey was p (j - 4))
          rw [← nextKey_step was p j hj4] at x1
          have q3 : (j : Int) < 16 := by omega
          have q4 : (0 : Int) ≤ (j : Int) := by omega
          have q6 : (0 : Int) ≤ (j : Int) - 4 := by omega
          have q7 : (j : Int) - 4 < 16 := by omega
          have q8 : ((j : Int) - 4).toNat = j - 4 := by omega
          have q9 : (4 : Int) ≤ (j : Int) := by omega
          have w2 : IntKind.i64.wrap ((j : Int) - 4) = (j : Int) - 4 := IntWalk.i64_in _ (by omega)
          clear h
          go_wp2
          refine region_tail 9 (by kernel_rfl) (by kernel_rfl) ?_
          simp only [List.take_succ_cons, List.take_zero, List.drop_succ_cons, List.drop_zero]
          repeat still_step
          refine wpStill_nil ?_
          go_wp2
          exact ⟨⟨j + 1, by omega, by omega, ival (by omega), (hnx.out _ rfl).drew⟩, by simp [intOf]; omega⟩
        · have q3 : ¬ (j : Int) < 16 := by omega
          have hr : wr.rowIs (w.heap.size + 2) 24 16 (fun t => .int .u8 ((Aes.nextKey was p t).toNat : Int)) := World.rowIs.congr h.out.r2 (fun t ht => by unfold setTo; rw [if_pos (by omega)])
          have hz := h.out.r1
          have hb := h.out.hb
          go_wp2_with (first
            | (refine load_whole (by rfl) 24 (.tmp 7) (by rfl) _ _ _ _ hr (by rfl) _ Tryz.underlying24 rfl (by kernel_rfl) ?_)
            | (refine store_whole (by rfl) 24 (.tmp 6) (.tmp 48) (by rfl) (w.heap.size + 1) _ 16 _ _ hz (by rfl) _ (by rfl) (by kernel_rfl) (size_cellsOf _ _) (cellsOf_at _ _) (fun _ _ => rfl) ?_
               intro w6 hr6 ho6))
          exact bodyPost_ret (results_row rfl _ (w.heap.size + 1) _ _ _ _ (by rfl) hr6 Tryz.underlying24 rfl (by kernel_rfl)) rfl ⟨rfl, ho6.below hb (by omega)⟩
end Go.Proofs.YtnkjoambhmlnbaaGreatDoor.Aes

namespace Go.Proofs.YtnkjoambhmlnbaaGreatDoor.Aes
open Go Go.RowKit Go.Proofs.YtnkjoambhmlnbaaGreatDoor.Aid

set_option maxRecDepth 100000 in
set_option maxHeartbeats 4000000 in
theorem keysBy_any (key : Blk) (X : Array Value) (hX : X.size = 16) (hXi : ∀ i, i < 16 → X[i]? = some (.int .u8 ((key i).toNat : Int))) (w : World) (B : Nat) (hB : RowB w B 130 256 boxAt) :
    Calls Tryz.prog 91 #[.pointer (some ⟨B, 0, none⟩), .agg X] w fun r w' => r = .returned (.agg (byteRow 176 (keysTo key 11))) ∧ Below w.heap.size w w' := by
  obtain ⟨hz1, _⟩ := zero_of_info (keys_zero _ rfl)
  have h1 : ∃ W, W = (w.alloc (.cells X 24)).alloc (.cells (cellsOf 176 fun _ => .int .u8 0) 132) ∧ W.heap.size = w.heap.size + 2 ∧ RowB W w.heap.size 24 16 key ∧ W.rowIs (w.heap.size + 1) 132 176 (fun _ => .int .u8 0) ∧ Below w.heap.size w W := by
    have s1 : (w.alloc (.cells X 24)).heap.size = w.heap.size + 1 := by simp
    have r1 := (row_new w X 24 16 (fun j => .int .u8 ((key j).toNat : Int)) hX hXi).alloc (.cells (cellsOf 176 fun _ => .int .u8 0) 132)
    have r2 := row_new (w.alloc (.cells X 24)) (cellsOf 176 fun _ => .int .u8 0) 132 176 _ (size_cellsOf _ _) (cellsOf_at _ _)
    rw [s1] at r2
    exact ⟨_, rfl, by simp, r1, r2, ((Below.refl _ _).alloc (Nat.le_refl _) _).alloc (by simp) _⟩
  obtain ⟨W, hW, hs, hk0, hz0, hb0⟩ := h1
  have HB := Lib.hid hB
  have hlt0 : B < w.heap.size := World.rowIs.lt hB
  clear hXi hB
  go_enter Tryz.func91, Tryz.ntmps91
  go_wp2_with (first
    | (change wpList _ _ _ _ _ ((w.alloc (.cells X 24)).alloc (.cells (cellsOf 176 fun _ => .int .u8 0) 132))
       rw [← hW]
       clear hW
       refine load_whole (by rfl) 24 (.tmp 3) (by rfl) _ _ _ _ hk0 (by rfl) _ Tryz.underlying24 rfl (by kernel_rfl) ?_)
    | (refine build_named (by rfl) 132 _ (by rfl) (cellsOf 176 fun t => .int .u8 ((keysTo key 1 t).toNat : Int)) (by kernel_rfl) ?_)
    | (refine store_whole (by rfl) 132 (.tmp 5) (.tmp 9) (by rfl) (w.heap.size + 2) _ 176 (fun _ => .int .u8 0) (fun t => .int .u8 ((keysTo key 1 t).toNat : Int)) (by rw [← hs]; exact row_new W _ _ 176 _ (size_cellsOf _ _) (cellsOf_at _ _)) (by rfl) _ (by rfl) (by kernel_rfl) (size_cellsOf _ _) (cellsOf_at _ _) (fun _ _ => rfl) ?_
       intro w3 hr3 ho3
       have h4 : KeysRel key (w.heap.size + 1) B (w.heap.size + 2) 1 w w3 :=
         ⟨ho3.row (hz0.alloc _) (by omega), World.rowIs.of_block HB.out ((ho3.below (hb0.alloc hb0.size _) (by omega)).block _ hlt0), hr3, ho3.below (hb0.alloc hb0.size _) (by omega)⟩
       clear hk0 hz0 hb0 hs hr3 ho3))
  clear hz1
  go_loopw [6, 7, 10] (fun pw _ n wr => ∃ (k : Nat) (p : BitVec 8), k ≤ 10 ∧ pw = .int .u8 (p.toNat : Int) ∧ n = .int .i64 (k : Int) ∧ Hid (p = xpow 1 k) ∧ Hid (KeysRel key (w.heap.size + 1) B (w.heap.size + 2) (k + 1) w wr)) (fun _ _ n _ => 12 - (intOf n).toNat)
  case atStart => exact ⟨0, 1, by omega, rfl, rfl, rfl, h4⟩
  case round =>
    clear h4
    obtain ⟨k, p, hk, rfl, rfl, Hp, h⟩ := hrel
    by_cases hlt : k < 10
    · have q0 : (k : Int) < 10 := by omega
      have q1 : (0 : Int) ≤ (k : Int) := by omega
      have q2 : (k : Int) < 11 := by omega
      have p0 : (0 : Int) ≤ (k : Int) + 1 := by omega
      have p1 : (k : Int) + 1 < 11 := by omega
      have p2 : ((k : Int) + 1).toNat = k + 1 := by omega
      have hr4 := h.out.r4
      have hdb := Lib.hid (fun W => double_any p W)
      go_wp2_with (first
        | (refine load_row (by rfl) 24 (.tmp 17) (by rfl) (w.heap.size + 2) (k * 16) _ 176 16 _ hr4 (by rfl) _ Tryz.underlying24 rfl (by kernel_rfl) (by omega) ?_)
        | (go_at_call 99
           refine (nextKey_any (roundKey key k) p _ (size_cellsOf _ _) (fun i hi => by rw [cellsOf_at _ _ _ hi, Nat.mul_comm, keysTo_at _ _ _ _ (by omega) hi]) wr B h.out.r3).mono ?_
           rintro x w4 ⟨rfl, hb4⟩
           have h5 : Hid (KeysRel key (w.heap.size + 1) B (w.heap.size + 2) (k + 1) w w4) := ⟨h.out.r2.of_block (hb4.block _ h.out.r2.lt), World.rowIs.of_block h.out.r3 (hb4.block _ (World.rowIs.lt h.out.r3)), World.rowIs.of_block h.out.r4 (hb4.block _ (World.rowIs.lt h.out.r4)), h.out.hb.trans (hb4.mono h.out.hb.size)⟩
           have hr5 := h5.out.r4
           clear hr4 hb4 h)
        | (refine store_row (by rfl) 24 (.tmp 21) (.tmp 20) (by rfl) (w.heap.size + 2) ((k + 1) * 16) _ 176 16 _ (fun j => .int .u8 ((Aes.nextKey (roundKey key k) p j).toNat : Int)) hr5 (by rfl) _ (by rfl) (by kernel_rfl) (by omega) (size_cellsOf _ _) (cellsOf_at _ _) (fun _ _ => rfl) ?_
           intro w8 hr8 ho8)
        | (go_at_call 100
           refine (hdb.out _).mono ?_
           rintro x w9 ⟨rfl, rfl⟩))
      have hpn : Hid (xtime p = xpow 1 (k + 1)) := by show xtime p = xtime (xpow 1 k); rw [Hp.out]
      have h9 : KeysRel key (w.heap.size + 1) B (w.heap.size + 2) (k + 1 + 1) w w9 := by
        refine ⟨ho8.row h5.out.r2 (by omega), ho8.row h5.out.r3 (by omega), World.rowIs.congr hr8 (fun t ht => ?_), ho8.below h5.out.hb (by omega)⟩
        rw [← keysTo_next key (k + 1) t (roundKey key (k + 1)) (fun _ _ => rfl), Nat.mul_comm (k + 1) 16, Hp.out]
        by_cases h1 : 16 * (k + 1) ≤ t ∧ t < 16 * (k + 1) + 16
        · rw [if_pos h1, if_pos h1]; rfl
        · rw [if_neg h1, if_neg h1]
      exact ⟨⟨k + 1, xtime p, by omega, rfl, ival (by omega), hpn.out, h9⟩, by simp [intOf]; omega⟩
    · have q0 : ¬ (k : Int) < 10 := by omega
      have hk10 : k = 10 := by omega
      have hr4 : wr.rowIs (w.heap.size + 2) 132 176 (fun t => .int .u8 ((keysTo key 11 t).toNat : Int)) := by
        have := h.out.r4
        rw [hk10] at this
        exact this
      have hr2 := h.out.r2
      have hb := h.out.hb
      clear h hk10
      go_wp2_with (first
        | (refine load_whole (by rfl) 132 (.tmp 5) (by rfl) _ _ _ _ hr4 (by rfl) _ Tryz.underlying132 rfl (by kernel_rfl) ?_)
        | (refine store_whole (by rfl) 132 (.tmp 4) (.tmp 25) (by rfl) (w.heap.size + 1) _ 176 _ _ hr2 (by rfl) _ (by rfl) (by kernel_rfl) (size_cellsOf _ _) (cellsOf_at _ _) (fun _ _ => rfl) ?_
           intro w6 hr6 ho6))
      exact bodyPost_ret (results_row rfl _ (w.heap.size + 1) _ _ _ _ (by rfl) hr6 Tryz.underlying132 rfl (by kernel_rfl)) rfl ⟨rfl, ho6.below hb (by omega)⟩
end Go.Proofs.YtnkjoambhmlnbaaGreatDoor.Aes
namespace Go.Proofs.YtnkjoambhmlnbaaGreatDoor.Aes
open Go Go.RowKit Go.Proofs.YtnkjoambhmlnbaaGreatDoor.Aid

def colSum (t : Blk) (i : Nat) : BitVec 8 := t (4 * i) ^^^ t (4 * i + 1) ^^^ t (4 * i + 2) ^^^ t (4 * i + 3)
theorem mix_by_sum (t : Blk) (i j : Nat) (hj : j < 4) : xtime (t (4 * i + j) ^^^ t (4 * i + (j + 1) % 4)) ^^^ colSum t i ^^^ t (4 * i + j) = mixCols t (4 * i + j) := by
  have h0 : ∀ a b c d : BitVec 8, xtime (a ^^^ b) ^^^ (a ^^^ b ^^^ c ^^^ d) ^^^ a = times 2 a ^^^ times 3 b ^^^ c ^^^ d := fun a b c d => by
    rw [xtime_add, two_times, three_times]
    have : xtime a ^^^ xtime b ^^^ (a ^^^ b ^^^ c ^^^ d) ^^^ a = (xtime a ^^^ (xtime b ^^^ b) ^^^ c ^^^ d) ^^^ (a ^^^ a) := by ac_rfl
    rw [this, BitVec.xor_self, BitVec.xor_zero]
  have hs : colSum t i = t (4 * i + j) ^^^ t (4 * i + (j + 1) % 4) ^^^ t (4 * i + (j + 2) % 4) ^^^ t (4 * i + (j + 3) % 4) := by
    unfold colSum
    have : j = 0 ∨ j = 1 ∨ j = 2 ∨ j = 3 := by omega
    rcases this with rfl | rfl | rfl | rfl
    · rfl
    · show t (4 * i) ^^^ t (4 * i + 1) ^^^ t (4 * i + 2) ^^^ t (4 * i + 3) = t (4 * i + 1) ^^^ t (4 * i + 2) ^^^ t (4 * i + 3) ^^^ t (4 * i); ac_rfl
    · show t (4 * i) ^^^ t (4 * i + 1) ^^^ t (4 * i + 2) ^^^ t (4 * i + 3) = t (4 * i + 2) ^^^ t (4 * i + 3) ^^^ t (4 * i) ^^^ t (4 * i + 1); ac_rfl
    · show t (4 * i) ^^^ t (4 * i + 1) ^^^ t (4 * i + 2) ^^^ t (4 * i + 3) = t (4 * i + 3) ^^^ t (4 * i) ^^^ t (4 * i + 1) ^^^ t (4 * i + 2); ac_rfl
  rw [hs, h0]
  unfold mixCols
  rw [show (4 * i + j) / 4 = i by omega, show (4 * i + j) % 4 = j by omega]

set_option maxRecDepth 100000 in
set_option maxHeartbeats 1000000 in
theorem mix_any (cur : Blk) (X : Array Value) (hX : X.size = 16) (hXi : ∀ i, i < 16 → X[i]? = some (.int .u8 ((cur i).toNat : Int))) (w : World) :
    Calls Tryz.prog 94 #[.agg X] w fun r w' => r = .returned (.agg (byteRow 16 (mixCols cur))) ∧ Below w.heap.size w w' := by
  have hr := Lib.hid (fun Z hZ => three_new cur X Z hX hXi hZ w)
  clear hXi
  go_enter Tryz.func94, Tryz.ntmps94
  go_wp2
  obtain ⟨W, hW, h0⟩ := hr.out _ rfl
  change Code.wp _ _ _ _ (((w.alloc (.cells X 24)).alloc (.cells (Array.replicate 16 (.int .u8 0)) 24)).alloc (.cells (Array.replicate 16 (.int .u8 0)) 24))
  rw [← hW]
  clear hW hr
  go_loopw [4, 5, 6, 7, 8, 31] (fun c _ _ _ _ _ wr => ∃ i : Nat, i ≤ 4 ∧ c = .int .i64 (4 * (i : Int)) ∧ Hid (Three cur (setTo (fun _ => 0) (mixCols cur) (4 * i)) w wr)) (fun c _ _ _ _ _ _ => 20 - (intOf c).toNat)
  case atStart => exact ⟨0, by omega, rfl, h0.congr (fun _ _ => rfl)⟩
  case round =>
    clear h0
    obtain ⟨i, hi, rfl, h⟩ := hrel
    by_cases hi4 : i < 4
    · have cc : ∀ j, j < 4 → wr.cell? ⟨w.heap.size, 4 * i + j, none⟩ = some (.int .u8 ((cur (4 * i + j)).toNat : Int)) := fun j hj => World.rowIs.cell h.out.r0 (by omega)
      have c0 : wr.cell? ⟨w.heap.size, 4 * i, none⟩ = some (.int .u8 ((cur (4 * i)).toNat : Int)) := cc 0 (by omega)
      have c1 := cc 1 (by omega)
      have c2 := cc 2 (by omega)
      have c3 := cc 3 (by omega)
      have q0 : 4 * (i : Int) < 16 := by omega
      have q1 : (0 : Int) ≤ 4 * (i : Int) := by omega
      have q2 : (4 * (i : Int)).toNat = 4 * i := by omega
      have a1 : IntKind.i64.wrap (4 * (i : Int) + 1) = 4 * (i : Int) + 1 := IntWalk.i64_in _ (by omega)
      have a2 : IntKind.i64.wrap (4 * (i : Int) + 2) = 4 * (i : Int) + 2 := IntWalk.i64_in _ (by omega)
      have a3 : IntKind.i64.wrap (4 * (i : Int) + 3) = 4 * (i : Int) + 3 := IntWalk.i64_in _ (by omega)
      have b1 : 4 * (i : Int) + 1 < 16 := by omega
      have b2 : 4 * (i : Int) + 2 < 16 := by omega
      have b3 : 4 * (i : Int) + 3 < 16 := by omega
      have d1 : (0 : Int) ≤ 4 * (i : Int) + 1 := by omega
      have d2 : (0 : Int) ≤ 4 * (i : Int) + 2 := by omega
      have d3 : (0 : Int) ≤ 4 * (i : Int) + 3 := by omega
      have e1 : (4 * (i : Int) + 1).toNat = 4 * i + 1 := by omega
      have e2 : (4 * (i : Int) + 2).toNat = 4 * i + 2 := by omega
      have e3 : (4 * (i : Int) + 3).toNat = 4 * i + 3 := by omega
      clear cc
      go_wp2
      refine region_still (by kernel_rfl) (by kernel_rfl) ?_
      repeat still_step
      refine wpStill_nil ?_
      go_wp2
      rw [xor8, xor8, xor8]
      obtain ⟨S1, hS1⟩ : ∃ S, S = cur (4 * i) ^^^ cur (4 * i + 1) := ⟨_, rfl⟩
      obtain ⟨S2, hS2⟩ : ∃ S, S = S1 ^^^ cur (4 * i + 2) := ⟨_, rfl⟩
      obtain ⟨S, hS⟩ : ∃ S, S = S2 ^^^ cur (4 * i + 3) := ⟨_, rfl⟩
      rw [← hS1, ← hS2, ← hS]
      have HS : Hid (S = colSum cur i) := by show _ = _; rw [hS, hS2, hS1]; rfl
      clear hS1 hS2
      have h1 : Three cur (setTo (fun _ => 0) (mixCols cur) (4 * i + 0)) w wr.drew := h.out.drew
      clear hS h c0 c1 c2 c3 a1 a2 a3 b1 b2 b3 d1 d2 d3 e1 e2 e3
      go_loopw [6, 7, 8, 31] (fun _ _ _ r wr' => ∃ j : Nat, j ≤ 4 ∧ r = .int .i64 (j : Int) ∧ Hid (Three cur (setTo (fun _ => 0) (mixCols cur) (4 * i + j)) w wr')) (fun _ _ _ r _ => 4 - (intOf r).toNat)
      case atStart => exact ⟨0, by omega, rfl, h1⟩
      case round =>
        clear h1
        obtain ⟨j, hj, rfl, h⟩ := hrel
        by_cases hj4 : j < 4
        · obtain ⟨m, hm⟩ : ∃ m, m = (j + 1) % 4 := ⟨_, rfl⟩
          have hm4 : m < 4 := by omega
          obtain ⟨e1, e2, e3, e4, e5, e6, e7⟩ := row_facts i j 1 m 1 rfl hi4 hj4 (by omega) hm
          obtain ⟨_, g2, g3, g4, g5⟩ := row_first i j hi4 hj4
          have c0 : wr.cell? ⟨w.heap.size, 4 * i + j, none⟩ = some (.int .u8 ((cur (4 * i + j)).toNat : Int)) := World.rowIs.cell h.out.r0 (by omega)
          have c1 : wr.cell? ⟨w.heap.size, 4 * i + m, none⟩ = some (.int .u8 ((cur (4 * i + m)).toNat : Int)) := World.rowIs.cell h.out.r0 (by omega)
          have c2 : wr.cell? ⟨w.heap.size + 2, 4 * i + j, none⟩ = some (.int .u8 ((0 : BitVec 8).toNat : Int)) := by
            rw [World.rowIs.cell h.out.r2 (show 4 * i + j < 16 by omega)]
            unfold setTo
            rw [if_neg (by omega)]
          have f2 : wr.frozen? ⟨w.heap.size + 2, 4 * i + j, none⟩ = false := World.rowIs.frozen h.out.r2 _
          have hnx : Hid (∀ v : Int, v = ((mixCols cur (4 * i + j)).toNat : Int) → Three cur (setTo (fun _ => 0) (mixCols cur) (4 * i + (j + 1))) w (wr.setCell ⟨w.heap.size + 2, 4 * i + j, none⟩ (.int .u8 v))) := fun v hv => h.out.set (setTo_next h.out.r2 v hv)
          have hmix : Hid (xtime (cur (4 * i + j) ^^^ cur (4 * i + m)) ^^^ S ^^^ cur (4 * i + j) = mixCols cur (4 * i + j)) := by show _ = _; rw [HS.out, hm, mix_by_sum cur i j hj4]
          have q3 : (j : Int) < 4 := by omega
          have q4 : (0 : Int) ≤ (j : Int) := by omega
          have x1 := xor8 (cur (4 * i + j)) (cur (4 * i + m))
          obtain ⟨B, hB⟩ : ∃ B, B = cur (4 * i + j) ^^^ cur (4 * i + m) := ⟨_, rfl⟩
          rw [← hB] at x1 hmix
          obtain ⟨D, hD⟩ : ∃ D, D = xtime B := ⟨_, rfl⟩
          rw [← hD] at hmix
          have hdb := fun W => double_any B W
          rw [← hD] at hdb
          have HD := Lib.hid hdb
          have x2 := xor8 D S
          obtain ⟨E, hE⟩ : ∃ E, E = D ^^^ S := ⟨_, rfl⟩
          rw [← hE] at x2 hmix
          have x3 := xor8 E (cur (4 * i + j))
          rw [hmix.out] at x3
          clear hB hD hE hdb
          clear hm hm4 h
          go_wp2
          refine region_still (by kernel_rfl) (by kernel_rfl) ?_
          repeat still_step
          refine wpStill_nil ?_
          go_wp2_with (go_at_call 100
                       refine (HD.out _).mono ?_
                       rintro x w9 ⟨rfl, rfl⟩)
          exact ⟨⟨j + 1, by omega, ival (by omega), (hnx.out _ rfl).drew⟩, by simp [intOf]; omega⟩
        · have q3 : ¬ (j : Int) < 4 := by omega
          have hj4' : j = 4 := by omega
          rw [hj4'] at h
          clear hj4'
          have h2 : Hid (Three cur (setTo (fun _ => 0) (mixCols cur) (4 * (i + 1))) w wr) := h
          clear h
          go_wp2
          exact ⟨⟨i + 1, by omega, ival (by omega), h2.out⟩, by simp [intOf]; omega⟩
    · have q0 : ¬ 4 * (i : Int) < 16 := by omega
      have hr : wr.rowIs (w.heap.size + 2) 24 16 (fun j => .int .u8 ((mixCols cur j).toNat : Int)) := World.rowIs.congr h.out.r2 (fun j hj => by unfold setTo; rw [if_pos (by omega)])
      have hz := h.out.r1
      have hb := h.out.hb
      go_wp2_with (first
        | (refine load_whole (by rfl) 24 (.tmp 3) (by rfl) _ _ _ _ hr (by rfl) _ Tryz.underlying24 rfl (by kernel_rfl) ?_)
        | (refine store_whole (by rfl) 24 (.tmp 2) (.tmp 59) (by rfl) (w.heap.size + 1) _ 16 _ _ hz (by rfl) _ (by rfl) (by kernel_rfl) (size_cellsOf _ _) (cellsOf_at _ _) (fun _ _ => rfl) ?_
           intro w6 hr6 ho6))
      exact bodyPost_ret (results_row rfl _ (w.heap.size + 1) _ _ _ _ (by rfl) hr6 Tryz.underlying24 rfl (by kernel_rfl)) rfl ⟨rfl, ho6.below hb (by omega)⟩
end Go.Proofs.YtnkjoambhmlnbaaGreatDoor.Aes

namespace Go.Proofs.YtnkjoambhmlnbaaGreatDoor.Aes
open Go Go.RowKit Go.Proofs.YtnkjoambhmlnbaaGreatDoor.Aid

theorem EncRows.store {key cur new : Blk} {r b5 b6 b7 : Nat} {w wr wr' : World} (h : EncRows key cur r b5 b6 b7 w wr) (ho : Only b7 wr wr') (hr : RowB wr' b7 24 16 new) (h4 : r ≠ b7) (h5 : b5 ≠ b7) (h6 : b6 ≠ b7) (hw : w.heap.size ≤ b7) : EncRows key new r b5 b6 b7 w wr' :=
  ⟨ho.row h.r4 h4, ho.row h.r5 h5, ho.row h.r6 h6, hr, ho.below h.hb hw⟩

set_option maxRecDepth 100000 in
set_option maxHeartbeats 4000000 in
theorem ownEncrypt_any (key block : Blk) (X Y : Array Value) (hX : X.size = 16) (hXi : ∀ i, i < 16 → X[i]? = some (.int .u8 ((key i).toNat : Int))) (hY : Y.size = 16) (hYi : ∀ i, i < 16 → Y[i]? = some (.int .u8 ((block i).toNat : Int))) (w : World) :
    Calls Tryz.prog 82 #[.agg X, .agg Y] w fun x w' => x = .returned (.agg (byteRow 16 (enc key block))) ∧ Below w.heap.size w w' := by
  have hr : ∀ (Z : Array Value), Z = Array.replicate 16 (.int .u8 0) → ∃ W, W = ((w.alloc (.cells X 24)).alloc (.cells Y 24)).alloc (.cells Z 24) ∧ RowB W w.heap.size 24 16 key ∧ RowB W (w.heap.size + 1) 24 16 block ∧ W.rowIs (w.heap.size + 2) 24 16 (fun _ => .int .u8 0) ∧ Below w.heap.size w W := fun Z hZ => by
    have s1 : (w.alloc (.cells X 24)).heap.size = w.heap.size + 1 := by simp
    have s2 : ((w.alloc (.cells X 24)).alloc (.cells Y 24)).heap.size = w.heap.size + 2 := by simp
    have r1 := ((row_new w X 24 16 (fun j => .int .u8 ((key j).toNat : Int)) hX hXi).alloc (.cells Y 24)).alloc (.cells Z 24)
    have r2 := (row_new (w.alloc (.cells X 24)) Y 24 16 (fun j => .int .u8 ((block j).toNat : Int)) hY hYi).alloc (.cells Z 24)
    have r3 := row_new ((w.alloc (.cells X 24)).alloc (.cells Y 24)) Z 24 16 _ (by rw [hZ]; simp) (zeros16 Z hZ)
    rw [s1] at r2
    rw [s2] at r3
    exact ⟨_, rfl, r1, r2, r3, (((Below.refl _ _).alloc (Nat.le_refl _) _).alloc (by simp) _).alloc (by rw [s2]; omega) _⟩
  have hrk : Hid (∀ i, i < 16 → keysTo key 11 i = roundKey key 0 i) := fun i hi => by have := keysTo_at key 11 0 i (by omega) hi; rw [Nat.mul_zero, Nat.zero_add] at this; exact this
  obtain ⟨hz1, _⟩ := zero_of_info (keys_zero _ rfl)
  obtain ⟨hz2, _⟩ := zero_of_info (boxes_zero _ rfl)
  clear hXi hYi
  go_enter Tryz.func82, Tryz.ntmps82
  go_wp2_with fail
  obtain ⟨W, hW, hk0, hb0, hz0, hl0⟩ := hr _ rfl
  change Calls Tryz.prog 90 _ (((w.alloc (.cells X 24)).alloc (.cells Y 24)).alloc (.cells (Array.replicate 16 (.int .u8 0)) 24)) _
  rw [← hW]
  clear hW hr
  refine (values_any W).mono ?_
  rintro x w1 ⟨rfl, hb1⟩
  have hk1 : RowB w1 w.heap.size _ 16 key := World.rowIs.of_block hk0 (hb1.block _ (World.rowIs.lt hk0))
  have hp1 : RowB w1 (w.heap.size + 1) _ 16 block := World.rowIs.of_block hb0 (hb1.block _ (World.rowIs.lt hb0))
  have hz1' := hz0.of_block (hb1.block _ hz0.lt)
  have hl1 := hl0.trans (hb1.mono hl0.size)
  have hs1 : w.heap.size + 2 < w1.heap.size := hz1'.lt
  clear hk0 hb0 hz0 hl0 hb1
  go_wp2_with (first
    | (refine store_whole (by rfl) 130 (.tmp 5) (.tmp 8) (by rfl) w1.heap.size _ 256 (fun _ => .int .u8 0) (fun j => .int .u8 ((boxAt j).toNat : Int)) (by exact row_new w1 _ _ 256 _ (size_cellsOf _ _) (cellsOf_at _ _)) (by rfl) _ (by rfl) (by kernel_rfl) (size_cellsOf _ _) (cellsOf_at _ _) (fun _ _ => rfl) ?_
       intro w2 hr2 ho2
       have hk2 : RowB w2 w.heap.size _ 16 key := ho2.row (World.rowIs.alloc hk1 _) (by omega)
       have hp2 : RowB w2 (w.heap.size + 1) _ 16 block := ho2.row (World.rowIs.alloc hp1 _) (by omega)
       have hz2' := ho2.row (hz1'.alloc _) (by omega)
       have hl2 := ho2.below (hl1.alloc hl1.size _) hl1.size
       have hs2 : w1.heap.size < w2.heap.size := hr2.lt
       clear hk1 hp1 hz1' hl1 ho2)
    | (refine load_whole (by rfl) 24 (.tmp 2) (by rfl) _ _ _ _ hk2 (by rfl) _ Tryz.underlying24 rfl (by kernel_rfl) ?_)
    | (go_at_call 91
       refine (keysBy_any key _ (size_cellsOf _ _) (cellsOf_at _ _) w2 w1.heap.size hr2).mono ?_
       rintro x w3 ⟨rfl, hb3⟩
       have hp3 : RowB w3 (w.heap.size + 1) _ 16 block := World.rowIs.of_block hp2 (hb3.block _ (World.rowIs.lt hp2))
       have hz3 := hz2'.of_block (hb3.block _ hz2'.lt)
       have hr3 : RowB w3 w1.heap.size _ 256 boxAt := World.rowIs.of_block hr2 (hb3.block _ hs2)
       have hl3 := hl2.trans (hb3.mono hl2.size)
       have hs3 := hb3.size
       clear hk2 hp2 hz2' hl2 hb3 hr2)
    | (refine store_whole (by rfl) 132 (.tmp 6) (.tmp 10) (by rfl) w3.heap.size _ 176 (fun _ => .int .u8 0) (fun t => .int .u8 ((keysTo key 11 t).toNat : Int)) (by exact row_new w3 _ _ 176 _ (size_cellsOf _ _) (cellsOf_at _ _)) (by rfl) _ (by rfl) (by kernel_rfl) (size_cellsOf _ _) (cellsOf_at _ _) (fun _ _ => rfl) ?_
       intro w4 hr4 ho4
       have hp4 : RowB w4 (w.heap.size + 1) _ 16 block := ho4.row (World.rowIs.alloc hp3 _) (by omega)
       have hz4 := ho4.row (hz3.alloc _) (by omega)
       have hx4 : RowB w4 w1.heap.size _ 256 boxAt := ho4.row (World.rowIs.alloc hr3 _) (by omega)
       have hl4 := ho4.below (hl3.alloc hl3.size _) hl3.size
       have hs4 : w3.heap.size < w4.heap.size := hr4.lt
       have h4 : Hid (EncRows key block (w.heap.size + 2) w1.heap.size w3.heap.size (w.heap.size + 1) w w4) := ⟨hz4, hx4, hr4, hp4, hl4⟩
       clear hp3 hz3 hr3 hl3 ho4 hz4 hx4 hl4)
    | (refine load_whole (by rfl) 24 (.tmp 3) (by rfl) _ _ _ _ hp4 (by rfl) _ Tryz.underlying24 rfl (by kernel_rfl) ?_)
    | (refine load_row (by rfl) 24 (.tmp 12) (by rfl) w3.heap.size 0 _ 176 16 _ hr4 (by rfl) _ Tryz.underlying24 rfl (by kernel_rfl) (by omega) ?_)
    | (go_at_call 92
       refine (add_any block (roundKey key 0) _ _ (size_cellsOf _ _) (cellsOf_at _ _) (size_cellsOf _ _) (fun i hi => (cellsOf_at _ _ _ hi).trans (by rw [← hrk.out i hi])) w4).mono ?_
       rintro x w5 ⟨rfl, hb5⟩
       have h5 := Lib.hid (h4.out.below hb5)
       have hp5 := h5.out.r7
       clear hp4 hr4 h4 hb5)
    | (refine store_whole (by rfl) 24 (.tmp 3) (.tmp 14) (by rfl) (w.heap.size + 1) _ 16 _ (fun t => .int .u8 ((addKey block (roundKey key 0) t).toNat : Int)) hp5 (by rfl) _ (by rfl) (by kernel_rfl) (size_cellsOf _ _) (cellsOf_at _ _) (fun _ _ => rfl) ?_
       intro w6 hr6 ho6))
  have h6 : EncRows key (encTo key block 0) (w.heap.size + 2) w1.heap.size w3.heap.size (w.heap.size + 1) w w6 := h5.out.store ho6 hr6 (by omega) (by omega) (by omega) (by omega)
  obtain ⟨B5, hB5⟩ : ∃ B, B = w1.heap.size := ⟨_, rfl⟩
  obtain ⟨B6, hB6⟩ : ∃ B, B = w3.heap.size := ⟨_, rfl⟩
  rw [← hB5] at h6 hs1 hs2 ⊢
  rw [← hB6] at h6 hs3 hs4 ⊢
  clear hr6 ho6 hp5 h5 hB5 hB6 hz1 hz2
  go_loopw [7, 15] (fun _ n wr => ∃ k : Nat, k ≤ 10 ∧ n = .int .i64 (k : Int) ∧ Hid (EncRows key (encTo key block k) (w.heap.size + 2) B5 B6 (w.heap.size + 1) w wr)) (fun _ n _ => 12 - (intOf n).toNat)
  case atStart => exact ⟨0, by omega, rfl, h6⟩
  case round =>
    clear h6
    obtain ⟨k, hk, rfl, h⟩ := hrel
    by_cases hlt : k < 10
    · have q0 : (k : Int) < 10 := by omega
      have q1 : (0 : Int) ≤ (k : Int) := by omega
      have p0 : (0 : Int) ≤ (k : Int) + 1 := by omega
      have p1 : (k : Int) + 1 < 11 := by omega
      have p2 : ((k : Int) + 1).toNat = k + 1 := by omega
      have e1 : IntKind.i64.wrap ((k : Int) + 1) = (k : Int) + 1 := IntWalk.i64_in _ (by omega)
      obtain ⟨cur, hcur⟩ : ∃ cur, cur = encTo key block k := ⟨_, rfl⟩
      rw [← hcur] at h
      have Hcur := Lib.hid hcur
      clear hcur
      have hr7 := h.out.r7
      have hr5 := h.out.r5
      by_cases h10 : k + 1 < 10
      · have q9 : (k : Int) < 9 := by omega
        go_wp2_with (first
          | (refine load_whole (by rfl) 24 (.tmp 3) (by rfl) _ _ _ _ hr7 (by rfl) _ Tryz.underlying24 rfl (by kernel_rfl) ?_)
          | (go_at_call 93
             refine (substitute_any cur _ (size_cellsOf _ _) (cellsOf_at _ _) wr B5 hr5).mono ?_
             rintro x w7 ⟨rfl, hb7⟩
             have h7 := Lib.hid (h.out.below hb7)
             have hr7' := h7.out.r7
             clear hr7 hr5 h hb7)
          | (refine store_whole (by rfl) 24 (.tmp 3) (.tmp 19) (by rfl) (w.heap.size + 1) _ 16 _ (fun t => .int .u8 ((subShift cur t).toNat : Int)) hr7' (by rfl) _ (by rfl) (by kernel_rfl) (size_cellsOf _ _) (cellsOf_at _ _) (fun _ _ => rfl) ?_
             intro w8 hr8 ho8
             have h8 : Hid (EncRows key (subShift cur) (w.heap.size + 2) B5 B6 (w.heap.size + 1) w w8) := h7.out.store ho8 hr8 (by omega) (by omega) (by omega) (by omega)
             clear ho8 hr7' h7)
          | (refine load_whole (by rfl) 24 (.tmp 3) (by rfl) _ _ _ _ hr8 (by rfl) _ Tryz.underlying24 rfl (by kernel_rfl) ?_)
          | (go_at_call 94
             refine (mix_any (subShift cur) _ (size_cellsOf _ _) (cellsOf_at _ _) w8).mono ?_
             rintro x w9 ⟨rfl, hb9⟩
             have h9 := Lib.hid (h8.out.below hb9)
             have hr9 := h9.out.r7
             clear hr8 h8 hb9)
          | (refine store_whole (by rfl) 24 (.tmp 3) (.tmp 23) (by rfl) (w.heap.size + 1) _ 16 _ (fun t => .int .u8 ((mixCols (subShift cur) t).toNat : Int)) hr9 (by rfl) _ (by rfl) (by kernel_rfl) (size_cellsOf _ _) (cellsOf_at _ _) (fun _ _ => rfl) ?_
             intro wz hrz hoz
             have hz : Hid (EncRows key (mixCols (subShift cur)) (w.heap.size + 2) B5 B6 (w.heap.size + 1) w wz) := h9.out.store hoz hrz (by omega) (by omega) (by omega) (by omega)
             clear hoz hr9 h9))
        obtain ⟨fin, hfin⟩ : ∃ fin, fin = mixCols (subShift cur) := ⟨_, rfl⟩
        rw [← hfin] at hrz hz
        have Hfin : Hid (encTo key block (k + 1) = addKey fin (roundKey key (k + 1))) := by
          show addKey (if k + 1 < 10 then mixCols (subShift (encTo key block k)) else subShift (encTo key block k)) _ = _
          rw [if_pos h10, hfin, Hcur.out]
        clear hfin
        refine region_tail 5 (by kernel_rfl) (by kernel_rfl) ?_
        simp only [List.take_succ_cons, List.take_zero, List.drop_succ_cons, List.drop_zero]
        have m7 : wz.drew.rowIs (w.heap.size + 1) _ 16 _ := hrz
        have m6 : wz.drew.rowIs B6 _ 176 _ := hz.out.r6
        repeat (first
          | (refine still_row (by rfl) 24 (.tmp 3) (by rfl) (w.heap.size + 1) 0 _ 16 16 _ m7 (by rfl) _ Tryz.underlying24 rfl (by kernel_rfl) (by omega) ?_)
          | (refine still_row (by rfl) 24 (.tmp 27) (by rfl) B6 ((k + 1) * 16) _ 176 16 _ m6 (by rfl) _ Tryz.underlying24 rfl (by kernel_rfl) (by omega) ?_)
          | still_step)
        refine wpStill_nil ?_
        go_wp2_with fail
        refine (add_any fin (roundKey key (k + 1)) _ _ (size_cellsOf _ _) (cellsOf_at _ _) (size_cellsOf _ _) (fun x hx => (cellsOf_at _ _ _ hx).trans (by rw [Nat.mul_comm, keysTo_at _ _ _ _ (by omega) hx])) wz.drew).mono ?_
        rintro x wa ⟨rfl, hba⟩
        have ha := Lib.hid (hz.out.drew.below hba)
        have hra := ha.out.r7
        clear hba hz hrz m6 m7
        go_wp2_with (refine store_whole (by rfl) 24 (.tmp 3) (.tmp 29) (by rfl) (w.heap.size + 1) _ 16 _ (fun x => .int .u8 ((addKey fin (roundKey key (k + 1)) x).toNat : Int)) hra (by rfl) _ (by rfl) (by kernel_rfl) (size_cellsOf _ _) (cellsOf_at _ _) (fun _ _ => rfl) ?_
                     intro wb hrb hob
                     have hb : Hid (EncRows key (encTo key block (k + 1)) (w.heap.size + 2) B5 B6 (w.heap.size + 1) w wb) := by
                       rw [Hfin.out]
                       exact ha.out.store hob hrb (by omega) (by omega) (by omega) (by omega)
                     clear hob hrb hra ha)
        exact ⟨⟨k + 1, by omega, ival (by omega), hb.out⟩, by simp [intOf]; omega⟩
      · have q9 : ¬ (k : Int) < 9 := by omega
        go_wp2_with (first
          | (refine load_whole (by rfl) 24 (.tmp 3) (by rfl) _ _ _ _ hr7 (by rfl) _ Tryz.underlying24 rfl (by kernel_rfl) ?_)
          | (go_at_call 93
             refine (substitute_any cur _ (size_cellsOf _ _) (cellsOf_at _ _) wr B5 hr5).mono ?_
             rintro x w7 ⟨rfl, hb7⟩
             have h7 := Lib.hid (h.out.below hb7)
             have hr7' := h7.out.r7
             clear hr7 hr5 h hb7)
          | (refine store_whole (by rfl) 24 (.tmp 3) (.tmp 19) (by rfl) (w.heap.size + 1) _ 16 _ (fun t => .int .u8 ((subShift cur t).toNat : Int)) hr7' (by rfl) _ (by rfl) (by kernel_rfl) (size_cellsOf _ _) (cellsOf_at _ _) (fun _ _ => rfl) ?_
             intro w8 hr8 ho8
             have h8 : Hid (EncRows key (subShift cur) (w.heap.size + 2) B5 B6 (w.heap.size + 1) w w8) := h7.out.store ho8 hr8 (by omega) (by omega) (by omega) (by omega)
             clear ho8 hr7' h7))
        obtain ⟨fin, hfin⟩ : ∃ fin, fin = subShift cur := ⟨_, rfl⟩
        rw [← hfin] at hr8 h8
        have Hfin : Hid (encTo key block (k + 1) = addKey fin (roundKey key (k + 1))) := by
          show addKey (if k + 1 < 10 then mixCols (subShift (encTo key block k)) else subShift (encTo key block k)) _ = _
          rw [if_neg h10, hfin, Hcur.out]
        clear hfin
        refine region_tail 5 (by kernel_rfl) (by kernel_rfl) ?_
        simp only [List.take_succ_cons, List.take_zero, List.drop_succ_cons, List.drop_zero]
        have m7 : w8.drew.rowIs (w.heap.size + 1) _ 16 _ := hr8
        have m6 : w8.drew.rowIs B6 _ 176 _ := h8.out.r6
        repeat (first
          | (refine still_row (by rfl) 24 (.tmp 3) (by rfl) (w.heap.size + 1) 0 _ 16 16 _ m7 (by rfl) _ Tryz.underlying24 rfl (by kernel_rfl) (by omega) ?_)
          | (refine still_row (by rfl) 24 (.tmp 27) (by rfl) B6 ((k + 1) * 16) _ 176 16 _ m6 (by rfl) _ Tryz.underlying24 rfl (by kernel_rfl) (by omega) ?_)
          | still_step)
        refine wpStill_nil ?_
        go_wp2_with fail
        refine (add_any fin (roundKey key (k + 1)) _ _ (size_cellsOf _ _) (cellsOf_at _ _) (size_cellsOf _ _) (fun x hx => (cellsOf_at _ _ _ hx).trans (by rw [Nat.mul_comm, keysTo_at _ _ _ _ (by omega) hx])) w8.drew).mono ?_
        rintro x wa ⟨rfl, hba⟩
        have ha := Lib.hid (h8.out.drew.below hba)
        have hra := ha.out.r7
        clear hba h8 hr8 m6 m7
        go_wp2_with (refine store_whole (by rfl) 24 (.tmp 3) (.tmp 29) (by rfl) (w.heap.size + 1) _ 16 _ (fun x => .int .u8 ((addKey fin (roundKey key (k + 1)) x).toNat : Int)) hra (by rfl) _ (by rfl) (by kernel_rfl) (size_cellsOf _ _) (cellsOf_at _ _) (fun _ _ => rfl) ?_
                     intro wb hrb hob
                     have hb : Hid (EncRows key (encTo key block (k + 1)) (w.heap.size + 2) B5 B6 (w.heap.size + 1) w wb) := by
                       rw [Hfin.out]
                       exact ha.out.store hob hrb (by omega) (by omega) (by omega) (by omega)
                     clear hob hrb hra ha)
        exact ⟨⟨k + 1, by omega, ival (by omega), hb.out⟩, by simp [intOf]; omega⟩
    · have q0 : ¬ (k : Int) < 10 := by omega
      have hk10 : k = 10 := by omega
      have hr7 : wr.rowIs (w.heap.size + 1) 24 16 (fun x => .int .u8 ((enc key block x).toNat : Int)) := by
        have := h.out.r7
        rw [hk10] at this
        exact this
      have hr4 := h.out.r4
      have hb := h.out.hb
      clear h hk10
      go_wp2_with (first
        | (refine load_whole (by rfl) 24 (.tmp 3) (by rfl) _ _ _ _ hr7 (by rfl) _ Tryz.underlying24 rfl (by kernel_rfl) ?_)
        | (refine store_whole (by rfl) 24 (.tmp 4) (.tmp 31) (by rfl) (w.heap.size + 2) _ 16 _ _ hr4 (by rfl) _ (by rfl) (by kernel_rfl) (size_cellsOf _ _) (cellsOf_at _ _) (fun _ _ => rfl) ?_
           intro w6 hr6 ho6))
      exact bodyPost_ret (results_row rfl _ (w.heap.size + 2) _ _ _ _ (by rfl) hr6 Tryz.underlying24 rfl (by kernel_rfl)) rfl ⟨rfl, ho6.below hb (by omega)⟩
end Go.Proofs.YtnkjoambhmlnbaaGreatDoor.Aes
