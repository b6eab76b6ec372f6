/-
  What sha.paddingOf and sha.bytesOf do: the padding of an input of so many bytes, and a state as a digest.
-/
import Derived.Test.YtebchoeeohmlaaaDoorProg
import Derived.Test.YtebchoeeohmlaaaDoorBd04
import Derived.Deep.WholeRow
namespace Go.Proofs.YtebchoeeohmlaaaDoor.Sha
open Go Go.RowKit Go.Proofs.YtebchoeeohmlaaaDoor.Aid

/-- Where the eight bytes of the length begin. -/
def padAt (n : Nat) : Nat := 1 + (119 - n % 64) % 64
theorem padAt_le (n : Nat) : 1 ≤ padAt n ∧ padAt n ≤ 64 := by unfold padAt; omega
def lenByte (n i : Nat) : BitVec 8 := BitVec.ofNat 8 (8 * n / 2 ^ (56 - 8 * i))
def padByte (n j : Nat) : BitVec 8 := if j = 0 then 128 else if padAt n ≤ j ∧ j < padAt n + 8 then lenByte n (j - padAt n) else 0
def padTo (n k j : Nat) : BitVec 8 := if j = 0 then 128 else if padAt n ≤ j ∧ j < padAt n + k then lenByte n (j - padAt n) else 0
theorem padTo_step (n k j : Nat) (hk : k < 8) : (if j = padAt n + k then Value.int .u8 ((lenByte n k).toNat : Int) else Value.int .u8 ((padTo n k j).toNat : Int)) = Value.int .u8 ((padTo n (k + 1) j).toNat : Int) := by
  have := padAt_le n
  unfold padTo
  by_cases h : j = padAt n + k
  · subst h
    rw [if_pos rfl, if_neg (by omega), if_pos (by omega), Nat.add_sub_cancel_left]
  · rw [if_neg h]
    by_cases h0 : j = 0
    · rw [if_pos h0, if_pos h0]
    · rw [if_neg h0, if_neg h0]
      by_cases h2 : padAt n ≤ j ∧ j < padAt n + k
      · rw [if_pos h2, if_pos (by omega)]
      · rw [if_neg h2, if_neg (by omega)]

theorem pad_at_walk (n : Nat) : wrap64 (1 + wrap64 ((IntKind.u64.wrap (55 - (n : Int))).tmod 64)) = (padAt n : Int) := by
  have h1 : IntKind.u64.wrap (55 - (n : Int)) = (55 - (n : Int)) % 18446744073709551616 := IntKind.wrap_u64 _
  have h2 : (0 : Int) ≤ (55 - (n : Int)) % 18446744073709551616 := by omega
  rw [h1, Int.tmod_eq_emod_of_nonneg h2]
  have h3 : (55 - (n : Int)) % 18446744073709551616 % 64 = (119 - (n : Int) % 64) % 64 := by omega
  rw [h3]
  have e1 : wrap64 ((119 - (n : Int) % 64) % 64) = (119 - (n : Int) % 64) % 64 := IntWalk.wrap64_in _ (by omega)
  have e2 : wrap64 (1 + (119 - (n : Int) % 64) % 64) = 1 + (119 - (n : Int) % 64) % 64 := IntWalk.wrap64_in _ (by omega)
  rw [e1, e2]
  unfold padAt
  omega
theorem lenByte_walk (n k : Nat) : (((n : Int) * 8) / 2 ^ (56 - 8 * k)) % 256 = ((lenByte n k).toNat : Int) := by
  unfold lenByte
  rw [BitVec.toNat_ofNat]
  have h : ((8 * n / 2 ^ (56 - 8 * k) % 2 ^ 8 : Nat) : Int) = ((8 * n / 2 ^ (56 - 8 * k) : Nat) : Int) % 256 := by omega
  rw [h, Int.natCast_ediv]
  simp [Int.mul_comm]
/-- What paddingOf holds in its loop. -/
structure PadRows (n k : Nat) (w wr : World) : Prop where
  r0 : wr.rowIs w.heap.size 148 72 (fun _ => .int .u8 0)
  r1 : wr.rowIs (w.heap.size + 1) 148 72 (fun j => .int .u8 ((padTo n k j).toNat : Int))
  hb : Below w.heap.size w wr
theorem PadRows.born (n : Nat) (w : World) : PadRows n 0 w ((w.alloc (Obj.cells (cellsOf 72 fun _ => Value.int IntKind.u8 0) 148)).alloc
      (Obj.cells ((cellsOf 72 fun _ => Value.int IntKind.u8 0).setIfInBounds 0 (Value.int IntKind.u8 128)) 148)) := by
  have a0 := row_new w (cellsOf 72 fun _ => Value.int IntKind.u8 0) 148 72 _ (size_cellsOf _ _) (cellsOf_at _ _)
  have s1 : (w.alloc (Obj.cells (cellsOf 72 fun _ => Value.int IntKind.u8 0) 148)).heap.size = w.heap.size + 1 := by simp
  have a1 := row_new (w.alloc (Obj.cells (cellsOf 72 fun _ => Value.int IntKind.u8 0) 148)) ((cellsOf 72 fun _ => Value.int IntKind.u8 0).setIfInBounds 0 (Value.int IntKind.u8 128)) 148 72
    (fun j => .int .u8 ((padTo n 0 j).toNat : Int)) (by rw [Array.size_setIfInBounds, size_cellsOf]) (by
      intro i hi
      rw [Array.getElem?_setIfInBounds, size_cellsOf]
      by_cases h0 : 0 = i
      · subst h0; simp [padTo]
      · rw [if_neg h0, cellsOf_at _ _ _ hi]
        have h1 : ¬ i = 0 := fun e => h0 e.symm
        have h2 : ¬ (padAt n ≤ i ∧ i < padAt n + 0) := by omega
        simp only [padTo, if_neg h1, if_neg h2]
        rfl)
  rw [s1] at a1
  exact ⟨a0.alloc _, a1, ((Below.refl _ _).alloc (by simp) _).alloc (by simp) _⟩
theorem PadRows.next {n k : Nat} {w wr : World} (h : PadRows n k w wr) (hk : k < 8) (v : Int) (hv : v = ((lenByte n k).toNat : Int)) :
    PadRows n (k + 1) w (wr.setCell ⟨w.heap.size + 1, padAt n + k, none⟩ (.int .u8 v)) := by
  subst hv
  exact ⟨h.r0.setOther (by simp) _, (h.r1.set _ _).congr (fun j _ => padTo_step n k j hk), h.hb.setCell (by simp) _⟩

set_option maxRecDepth 100000 in
set_option maxHeartbeats 1000000 in
theorem padding_any (n : Nat) (hn : n < 1152921504606846976) (w : World) :
    Calls Tryd.prog 91 #[.int .u64 n] w fun e w' => e = .returned (.tuple #[.agg (byteCells 72 (padByte n)), .int .i64 ((padAt n + 8 : Nat) : Int)]) ∧ Below w.heap.size w w' := by
  have hc0 : (cellsOf 72 fun _ => Value.int IntKind.u8 0)[0]? = some (.int .u8 0) := cellsOf_at _ _ _ (by omega)
  obtain ⟨hz, _⟩ := zero_of_info (P := Tryd.prog) (t := 148) (v := .agg (cellsOf 72 fun _ => .int .u8 0)) (n := 72) (by kernel_rfl)
  go_enter Tryd.func91, Tryd.ntmps91
  go_wp2
  rw [pad_at_walk n]
  have hp := padAt_le n
  go_loopw [7, 16] (fun _ i wr => ∃ k : Nat, k ≤ 8 ∧ i = .int .i64 k ∧ PadRows n k w wr) (fun _ i _ => 8 - (intOf i).toNat)
  case atStart => exact ⟨0, by omega, rfl, PadRows.born n w⟩
  case round =>
    obtain ⟨k, hk, rfl, h⟩ := hrel
    by_cases hlt : k < 8
    · have c0 := h.r1.cell (i := padAt n + k) (by omega)
      have f0 := h.r1.frozen (padAt n + k)
      go_wp2
      go_roundw
      case rel => exact ⟨k + 1, by omega, by go_num, h.next hlt _ (lenByte_walk n k)⟩
      case measure => simp [intOf]; omega
    · have hr0 := h.r0
      have hr1 : wr.rowIs _ 148 72 (fun j => .int .u8 ((padByte n j).toNat : Int)) := h.r1.congr (fun j hj => by
        have e : k = 8 := by omega
        rw [e]; rfl)
      have hbl := h.hb
      clear h
      go_wp2_with (first
        | (refine load_whole (by rfl) 148 (.tmp 4) (by rfl) _ _ _ _ hr1 (by rfl) _ Tryd.underlying148 rfl (by kernel_rfl) ?_)
        | (refine store_whole (by rfl) 148 (.tmp 2) (.tmp 30) (by rfl) w.heap.size _ _ _ _ hr0 (by rfl) _ (by rfl) (by kernel_rfl) (size_cellsOf _ _) (cellsOf_at _ _) (fun _ _ => rfl) ?_
           intro w3 hr3 ho3))
      refine bodyPost_ret (results_row_tmp rfl _ w.heap.size _ _ _ _ (by rfl) hr3 Tryd.underlying148 rfl (by kernel_rfl)) rfl ⟨?_, ho3.below hbl (by omega)⟩
      show Ending.returned (.tuple #[_, Value.int .i64 ((padAt n : Int) + 8)]) = _
      rw [show ((padAt n : Int) + 8) = ((padAt n + 8 : Nat) : Int) by omega]
      rfl


theorem byteOf_0 (s : St) (k : Nat) : ((s.get k).toNat : Int) / 16777216 = ((byteOf s (4 * k)).toNat : Int) := by
  have hlt := (s.get k).isLt
  rw [show ((s.get k).toNat : Int) / 16777216 = ((s.get k).toNat : Int) / 16777216 % 256 by omega]
  unfold byteOf
  rw [show 4 * k / 4 = k by omega, show 24 - 8 * (4 * k % 4) = 24 by omega, ← low8, ← shr32]
  rfl
theorem byteOf_1 (s : St) (k : Nat) : ((s.get k).toNat : Int) / 65536 % 256 = ((byteOf s (4 * k + 1)).toNat : Int) := by
  unfold byteOf
  rw [show (4 * k + 1) / 4 = k by omega, show 24 - 8 * ((4 * k + 1) % 4) = 16 by omega, ← low8, ← shr32]
  rfl
theorem byteOf_2 (s : St) (k : Nat) : ((s.get k).toNat : Int) / 256 % 256 = ((byteOf s (4 * k + 2)).toNat : Int) := by
  unfold byteOf
  rw [show (4 * k + 2) / 4 = k by omega, show 24 - 8 * ((4 * k + 2) % 4) = 8 by omega, ← low8, ← shr32]
  rfl
theorem byteOf_3 (s : St) (k : Nat) : ((s.get k).toNat : Int) % 256 = ((byteOf s (4 * k + 3)).toNat : Int) := by
  unfold byteOf
  rw [show (4 * k + 3) / 4 = k by omega, show 24 - 8 * ((4 * k + 3) % 4) = 0 by omega, ← low8, ← shr32]
  simp
def bytesTo (s : St) (k j : Nat) : BitVec 8 := if j < 4 * k then byteOf s j else 0
/-- What bytesOf holds in its loop. -/
structure ByteRows (s : St) (k : Nat) (w wr : World) : Prop where
  r1 : wr.rowIs (w.heap.size + 1) 137 32 (fun _ => .int .u8 0)
  r2 : wr.rowIs (w.heap.size + 1 + 1) 137 32 (fun j => .int .u8 ((bytesTo s k j).toNat : Int))
  hb : Below w.heap.size w wr
theorem ByteRows.born (s : St) (w : World) (S Z : Array Value) (hZ : Z = Array.replicate 32 (.int .u8 0)) :
    ByteRows s 0 w (((w.alloc (.cells S 141)).alloc (.cells Z 137)).alloc (.cells Z 137)) := by
  have s1 : (w.alloc (.cells S 141)).heap.size = w.heap.size + 1 := by simp
  have s2 : ((w.alloc (.cells S 141)).alloc (.cells Z 137)).heap.size = w.heap.size + 1 + 1 := by simp
  have hz : ∀ i, i < 32 → Z[i]? = some (.int .u8 0) := by subst hZ; intro i hi; simp [hi]
  have hs : Z.size = 32 := by subst hZ; simp
  have a1 := row_new (w.alloc (.cells S 141)) Z 137 32 _ hs hz
  have a2 := row_new ((w.alloc (.cells S 141)).alloc (.cells Z 137)) Z 137 32 _ hs hz
  rw [s1] at a1
  rw [s2] at a2
  exact ⟨a1.alloc _, a2.congr (fun j _ => by simp [bytesTo]), (((Below.refl _ _).alloc (by simp) _).alloc (by simp) _).alloc (by simp; omega) _⟩

theorem bytesTo_step (s : St) (k j : Nat) :
    (if j = 4 * k + 3 then Value.int .u8 ((byteOf s (4 * k + 3)).toNat : Int) else if j = 4 * k + 2 then Value.int .u8 ((byteOf s (4 * k + 2)).toNat : Int) else if j = 4 * k + 1 then Value.int .u8 ((byteOf s (4 * k + 1)).toNat : Int)
      else if j = 4 * k then Value.int .u8 ((byteOf s (4 * k)).toNat : Int) else Value.int .u8 ((bytesTo s k j).toNat : Int)) = Value.int .u8 ((bytesTo s (k + 1) j).toNat : Int) := by
  unfold bytesTo
  by_cases h3 : j = 4 * k + 3
  · subst h3; rw [if_pos rfl, if_pos (by omega)]
  · rw [if_neg h3]
    by_cases h2 : j = 4 * k + 2
    · subst h2; rw [if_pos rfl, if_pos (by omega)]
    · rw [if_neg h2]
      by_cases h1 : j = 4 * k + 1
      · subst h1; rw [if_pos rfl, if_pos (by omega)]
      · rw [if_neg h1]
        by_cases h0 : j = 4 * k
        · subst h0; rw [if_pos rfl, if_pos (by omega)]
        · rw [if_neg h0]
          by_cases h : j < 4 * k
          · rw [if_pos h, if_pos (by omega)]
          · rw [if_neg h, if_neg (by omega)]
theorem ByteRows.next {s : St} {k : Nat} {w wr : World} (h : ByteRows s k w wr) : ByteRows s (k + 1) w ((((wr.setCell { block := w.heap.size + 1 + 1, off := 4 * k }
    (Value.int IntKind.u8 (((s.get k).toNat : Int) / 16777216))).setCell { block := w.heap.size + 1 + 1, off := 4 * k + 1 } (Value.int IntKind.u8 (((s.get k).toNat : Int) / 65536 % 256))).setCell
    { block := w.heap.size + 1 + 1, off := 4 * k + 2 } (Value.int IntKind.u8 (((s.get k).toNat : Int) / 256 % 256))).setCell { block := w.heap.size + 1 + 1, off := 4 * k + 3 } (Value.int IntKind.u8 (((s.get k).toNat : Int) % 256))) := by
  rw [byteOf_0, byteOf_1, byteOf_2, byteOf_3]
  refine ⟨(((h.r1.setOther (by simp) _).setOther (by simp) _).setOther (by simp) _).setOther (by simp) _, ?_, (((h.hb.setCell (by simp; omega) _).setCell (by simp; omega) _).setCell (by simp; omega) _).setCell (by simp; omega) _⟩
  exact ((((h.r2.set (4 * k) _).set (4 * k + 1) _).set (4 * k + 2) _).set (4 * k + 3) _).congr (fun j _ => bytesTo_step s k j)

set_option maxRecDepth 100000 in
set_option maxHeartbeats 1000000 in
theorem bytes_any (s : St) (S : Array Value) (hS : S.size = 8) (hs : ∀ i, i < 8 → S[i]? = some (.int .u32 ((s.get i).toNat : Int))) (w : World) :
    Calls Tryd.prog 92 #[.agg S] w fun e w' => e = .returned (.agg (byteCells 32 (byteOf s))) ∧ Below w.heap.size w w' := by
  have HS := Lib.hid hS
  have Hs := Lib.hid hs
  clear hS hs
  go_enter Tryd.func92, Tryd.ntmps92
  go_wp2_with (refine load_whole (by rfl) 141 (.tmp 1) (by rfl) w.heap.size _ 8 (fun j => .int .u32 ((s.get j).toNat : Int)) (by exact ((row_new w S _ 8 _ HS.out Hs.out).alloc _).alloc _) (by rfl) _ Tryd.underlying141 rfl (by kernel_rfl) ?_)
  go_loopw [7] (fun i wr => ∃ k : Nat, k ≤ 8 ∧ i = .int .i64 k ∧ ByteRows s k w wr) (fun i _ => 8 - (intOf i).toNat)
  case atStart => exact ⟨0, by omega, rfl, ByteRows.born s w S _ rfl⟩
  case round =>
    obtain ⟨k, hk, rfl, h⟩ := hrel
    by_cases hlt : k < 8
    · have hx : ∀ W : World, (Instr.index 141 (.agg (cellsOf 8 fun j => Value.int IntKind.u32 ((s.get j).toNat : Int))) (.int .i64 (k : Int))).run Tryd.prog W = .ok (.int .u32 ((s.get k).toNat : Int)) W := by
        exact run_index _ 8 _ Tryd.underlying141 _ Tryd.underlying140 rfl (by kernel_rfl) _ k hlt _ (cellsOf_at _ _ _ hlt) _
      have c0 := h.r2.cell (i := 4 * k) (by omega)
      have c1 := h.r2.cell (i := 4 * k + 1) (by omega)
      have c2 := h.r2.cell (i := 4 * k + 2) (by omega)
      have c3 := h.r2.cell (i := 4 * k + 3) (by omega)
      have f0 := h.r2.frozen (4 * k)
      have f1 := h.r2.frozen (4 * k + 1)
      have f2 := h.r2.frozen (4 * k + 2)
      have f3 := h.r2.frozen (4 * k + 3)
      go_wp2
      go_roundw
      case rel => exact ⟨k + 1, by omega, by go_num, h.next⟩
      case measure => simp [intOf]; omega
    · have hr1 := h.r1
      have hr2 : wr.rowIs _ 137 32 (fun j => .int .u8 ((byteOf s j).toNat : Int)) := h.r2.congr (fun j hj => by
        have e : k = 8 := by omega
        simp only [bytesTo, e, if_pos (show j < 4 * 8 by omega)])
      have hbl := h.hb
      clear h
      go_wp2_with (first
        | (refine load_whole (by rfl) 137 (.tmp 3) (by rfl) _ _ _ _ hr2 (by rfl) _ Tryd.underlying137 rfl (by kernel_rfl) ?_)
        | (refine store_whole (by rfl) 137 (.tmp 2) (.tmp 38) (by rfl) (w.heap.size + 1) _ _ _ _ hr1 (by rfl) _ (by rfl) (by kernel_rfl) (size_cellsOf _ _) (cellsOf_at _ _) (fun _ _ => rfl) ?_
           intro w3 hr3 ho3))
      exact bodyPost_ret (results_row rfl _ (w.heap.size + 1) _ _ _ _ (by rfl) hr3 Tryd.underlying137 rfl (by kernel_rfl)) rfl ⟨rfl, ho3.below hbl (by omega)⟩
end Go.Proofs.YtebchoeeohmlaaaDoor.Sha
