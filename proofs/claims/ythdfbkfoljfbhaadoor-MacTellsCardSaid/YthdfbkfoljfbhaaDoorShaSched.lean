/-
  What sha.rotr and sha.schedule do, for every argument and every world: rotr turns a number to the right; schedule gives the 64 numbers of a block.
-/
import Derived.Test.YthdfbkfoljfbhaaDoorProg
import Derived.Test.YthdfbkfoljfbhaaDoorShaPlain
import Derived.Test.YthdfbkfoljfbhaaDoorAid
namespace Go.Proofs.YthdfbkfoljfbhaaDoor.Sha
open Go Go.RowKit Go.Proofs.YthdfbkfoljfbhaaDoor.Aid

theorem rotr_still (x : BitVec 32) (k : Int) (h1 : 1 ≤ k) (h2 : k ≤ 31) (w : World) :
    Calls Tryd.prog 35 #[.int .u32 x.toNat, .int .u64 k] w fun e w' => e = .returned (.int .u32 (rotr x k.toNat).toNat) ∧ w' = w := by
  obtain ⟨n, rfl⟩ := Int.eq_ofNat_of_zero_le (show 0 ≤ k by omega)
  go_enter Tryd.func35, Tryd.ntmps35
  go_wp2
  go_ret
  refine ⟨?_, rfl⟩
  have e : bits BinOp.or IntKind.u32 (↑x.toNat / 2 ^ n) (↑x.toNat * 2 ^ (32 - n) % 4294967296) = ((rotr x (n : Int).toNat).toNat : Int) := by
    rw [shr32, shl32, or32]; rfl
  show Ending.returned (Value.int .u32 (bits BinOp.or IntKind.u32 (↑x.toNat / 2 ^ n) (↑x.toNat * 2 ^ (32 - n) % 4294967296))) = _
  rw [e]

theorem shl8 (x : BitVec 8) (m : Int) (k : Nat) (hm : m = 2 ^ k) (hk : k ≤ 24) : (x.toNat : Int) * m = ((x.setWidth 32 <<< k).toNat : Int) := by
  subst hm
  rw [BitVec.toNat_shiftLeft, BitVec.toNat_setWidth, Nat.shiftLeft_eq]
  have h1 := x.isLt
  have h2 : x.toNat % 2 ^ 32 = x.toNat := Nat.mod_eq_of_lt (by omega)
  have h3 : x.toNat * 2 ^ k < 2 ^ 32 := by
    have h4 : 2 ^ k ≤ 2 ^ 24 := Nat.pow_le_pow_right (by omega) hk
    have h5 : x.toNat * 2 ^ k ≤ 255 * 2 ^ 24 := Nat.mul_le_mul (by omega) h4
    omega
  rw [h2, Nat.mod_eq_of_lt h3]
  simp
theorem word_walk (b : Nat → BitVec 8) (k : Nat) :
    bits BinOp.or IntKind.u32 (bits BinOp.or IntKind.u32 (bits BinOp.or IntKind.u32 (((b (4 * k)).toNat : Int) * 16777216) (((b (4 * k + 1)).toNat : Int) * 65536)) (((b (4 * k + 2)).toNat : Int) * 256)) ((b (4 * k + 3)).toNat : Int) = ((word b k).toNat : Int) := by
  rw [shl8 (b (4 * k)) 16777216 24 (by decide) (by decide), shl8 (b (4 * k + 1)) 65536 16 (by decide) (by decide), shl8 (b (4 * k + 2)) 256 8 (by decide) (by decide), wide8 (b (4 * k + 3)), or32, or32, or32]
  rfl

def wordsTo (b : Nat → BitVec 8) (k : Nat) (j : Nat) : BitVec 32 := if j < k then sched b j else 0
theorem wordsTo_step (b : Nat → BitVec 8) (k j : Nat) : (if j = k then Value.int .u32 ((sched b k).toNat : Int) else Value.int .u32 ((wordsTo b k j).toNat : Int)) = Value.int .u32 ((wordsTo b (k + 1) j).toNat : Int) := by
  unfold wordsTo
  by_cases h : j = k
  · subst h; simp
  · by_cases h2 : j < k
    · simp [h, h2, Nat.lt_succ_of_lt h2]
    · have : ¬ j < k + 1 := by omega
      simp [h, h2, this]
theorem wordsTo_lt (b : Nat → BitVec 8) (k j : Nat) (h : j < k) : wordsTo b k j = sched b j := by simp [wordsTo, h]

/-- The three rows of schedule, in the loops. -/
structure SchedRows (b : Nat → BitVec 8) (w wr : World) (k : Nat) : Prop where
  r0 : wr.rowIs w.heap.size 48 64 (fun j => .int .u8 ((b j).toNat : Int))
  r1 : wr.rowIs (w.heap.size + 1) 65 64 (fun _ => .int .u32 0)
  r2 : wr.rowIs (w.heap.size + 1 + 1) 65 64 (fun j => .int .u32 ((wordsTo b k j).toNat : Int))
  hb : Below w.heap.size w wr
theorem SchedRows.drew {b : Nat → BitVec 8} {w wr : World} {k : Nat} (h : SchedRows b w wr k) : SchedRows b w wr.drew k := ⟨h.r0, h.r1, h.r2, h.hb.drew⟩
theorem SchedRows.next {b : Nat → BitVec 8} {w wr : World} {k : Nat} (h : SchedRows b w wr k) (v : Int) (hv : v = ((sched b k).toNat : Int)) :
    SchedRows b w (wr.setCell ⟨w.heap.size + 1 + 1, k, none⟩ (.int .u32 v)) (k + 1) := by
  subst hv
  refine ⟨h.r0.setOther (by simp; omega) _, h.r1.setOther (by simp) _, ?_, h.hb.setCell (by simp; omega) _⟩
  exact (h.r2.set k _).congr (fun j _ => wordsTo_step b k j)
theorem SchedRows.born (b : Nat → BitVec 8) (w : World) (C : Array Value) (hC : C.size = 64) (hc : ∀ i, i < 64 → C[i]? = some (.int .u8 ((b i).toNat : Int))) (Z : Array Value) (hZ : Z = Array.replicate 64 (.int .u32 0)) :
    SchedRows b w (((w.alloc (.cells C 48)).alloc (.cells Z 65)).alloc (.cells Z 65)) 0 := by
  have s1 : (w.alloc (.cells C 48)).heap.size = w.heap.size + 1 := by simp
  have s2 : ((w.alloc (.cells C 48)).alloc (.cells Z 65)).heap.size = w.heap.size + 1 + 1 := by simp
  have hz : ∀ i, i < Z.size → Z[i]? = some (.int .u32 0) := by subst hZ; intro i hi; simp at hi; simp [hi]
  have hzs : Z.size = 64 := by subst hZ; simp
  have a0 := (w.rowIs_alloc C 48 (fun j => .int .u8 ((b j).toNat : Int)) (by rw [hC]; exact hc))
  rw [hC] at a0
  have a1 := ((w.alloc (.cells C 48)).rowIs_alloc Z 65 (fun _ => .int .u32 0) hz)
  rw [hzs, s1] at a1
  have a2 := (((w.alloc (.cells C 48)).alloc (.cells Z 65)).rowIs_alloc Z 65 (fun _ => .int .u32 0) hz)
  rw [hzs, s2] at a2
  refine ⟨(a0.alloc _).alloc _, a1.alloc _, a2.congr (fun j _ => by simp [wordsTo]), ?_⟩
  exact (((Below.refl _ _).alloc (by simp) _).alloc (by simp) _).alloc (by simp; omega) _

theorem add4 (a b c d : BitVec 32) : ((a.toNat : Int) + (b.toNat : Int) + (c.toNat : Int) + (d.toNat : Int)) % (4294967296 : Int) = ((a + b + c + d).toNat : Int) := by
  simp only [BitVec.toNat_add]; omega
theorem shr3 (x : BitVec 32) : (x.toNat : Int) / (8 : Int) = ((x >>> 3).toNat : Int) := shr32 x 3
theorem shr10 (x : BitVec 32) : (x.toNat : Int) / (1024 : Int) = ((x >>> 10).toNat : Int) := shr32 x 10
theorem sched_walk (b : Nat → BitVec 8) (k : Nat) (h : 16 ≤ k) :
    (((sched b (k - 16)).toNat : Int) + ((sched b (k - 7)).toNat : Int) +
                  bits BinOp.xor IntKind.u32
                    (bits BinOp.xor IntKind.u32 ((rotr (sched b (k - 15)) 7).toNat : Int) ((rotr (sched b (k - 15)) 18).toNat : Int))
                    (((sched b (k - 15)).toNat : Int) / 8) +
                bits BinOp.xor IntKind.u32
                  (bits BinOp.xor IntKind.u32 ((rotr (sched b (k - 2)) 17).toNat : Int) ((rotr (sched b (k - 2)) 19).toNat : Int))
                  (((sched b (k - 2)).toNat : Int) / 1024)) % 4294967296 = ((sched b k).toNat : Int) := by
  rw [sched_high b k h, shr3, shr10, xor32, xor32, xor32, xor32, add4]
  rfl

set_option maxRecDepth 100000 in
set_option maxHeartbeats 1000000 in
theorem schedule_any (b : Nat → BitVec 8) (C : Array Value) (hC : C.size = 64) (hc : ∀ i, i < 64 → C[i]? = some (.int .u8 ((b i).toNat : Int))) (w : World) :
    Calls Tryd.prog 34 #[.agg C] w fun e w' => e = .returned (.agg (wordCells 64 (sched b))) ∧ Below w.heap.size w w' := by
  have HC := Lib.hid hC
  have Hc := Lib.hid hc
  clear hC hc
  go_enter Tryd.func34, Tryd.ntmps34
  go_wp2
  go_loopw [4, 8] (fun _ i wr => ∃ k : Nat, k ≤ 16 ∧ i = .int .i64 k ∧ SchedRows b w wr k) (fun _ i _ => 16 - (intOf i).toNat)
  case atStart => exact ⟨0, by omega, rfl, SchedRows.born b w C HC.out Hc.out _ rfl⟩
  case round =>
    obtain ⟨k, hk, rfl, h⟩ := hrel
    by_cases hlt : k < 16
    · have c0 := h.r0.cell (i := 4 * k) (by omega)
      have c1 := h.r0.cell (i := 4 * k + 1) (by omega)
      have c2 := h.r0.cell (i := 4 * k + 2) (by omega)
      have c3 := h.r0.cell (i := 4 * k + 3) (by omega)
      have c4 := h.r2.cell (i := k) (by omega)
      have f4 := h.r2.frozen k
      have e0 : IntKind.i64.wrap (4 * (k : Int)) = 4 * (k : Int) := IntWalk.i64_in _ (by omega)
      have e1 : IntKind.i64.wrap (4 * (k : Int) + 1) = 4 * (k : Int) + 1 := IntWalk.i64_in _ (by omega)
      have e2 : IntKind.i64.wrap (4 * (k : Int) + 2) = 4 * (k : Int) + 2 := IntWalk.i64_in _ (by omega)
      have e3 : IntKind.i64.wrap (4 * (k : Int) + 3) = 4 * (k : Int) + 3 := IntWalk.i64_in _ (by omega)
      have t0 : (4 * (k : Int)).toNat = 4 * k := by omega
      have t1 : (4 * (k : Int) + 1).toNat = 4 * k + 1 := by omega
      have t2 : (4 * (k : Int) + 2).toNat = 4 * k + 2 := by omega
      have t3 : (4 * (k : Int) + 3).toNat = 4 * k + 3 := by omega
      have p0 : 0 ≤ 4 * (k : Int) := by omega
      have p1 : 0 ≤ 4 * (k : Int) + 1 := by omega
      have p2 : 0 ≤ 4 * (k : Int) + 2 := by omega
      have p3 : 0 ≤ 4 * (k : Int) + 3 := by omega
      have q0 : 4 * (k : Int) < 64 := by omega
      have q1 : 4 * (k : Int) + 1 < 64 := by omega
      have q2 : 4 * (k : Int) + 2 < 64 := by omega
      have q3 : 4 * (k : Int) + 3 < 64 := by omega
      have q4 : (k : Int) < 64 := by omega
      go_wp2
      refine region_tail 31 (by kernel_rfl) (by kernel_rfl) ?_
      simp only [List.take_succ_cons, List.take_zero, List.drop_succ_cons, List.drop_zero]
      repeat still_step
      refine wpStill_nil ?_
      go_wp2
      go_roundw
      case rel => exact ⟨k + 1, by omega, by go_num, (h.next _ ((word_walk b k).trans (by rw [sched_low b k hlt]))).drew⟩
      case measure => simp [intOf]; omega
    · have h16 : SchedRows b w wr 16 := by
        have e : k = 16 := by omega
        rw [e] at h; exact h
      clear h
      go_wp2
      go_loopw [5, 6, 7] (fun i _ _ wr2 => ∃ k : Nat, 16 ≤ k ∧ k ≤ 64 ∧ i = .int .i64 k ∧ SchedRows b w wr2 k) (fun i _ _ _ => 64 - (intOf i).toNat)
      case atStart => exact ⟨16, by omega, by omega, rfl, h16⟩
      case round =>
        clear h16 hlt hk
        obtain ⟨k0, rfl⟩ : ∃ k0 : Nat, k0 = k := ⟨_, rfl⟩
        obtain ⟨k, hk1, hk2, rfl, h⟩ := hrel
        by_cases hlt : k < 64
        · have c0 := h.r2.cell (i := k - 16) (by omega)
          have c1 := h.r2.cell (i := k - 15) (by omega)
          have c2 := h.r2.cell (i := k - 7) (by omega)
          have c3 := h.r2.cell (i := k - 2) (by omega)
          have c4 := h.r2.cell (i := k) (by omega)
          have f4 := h.r2.frozen k
          rw [wordsTo_lt b k _ (by omega)] at c0 c1 c2 c3
          have e0 : IntKind.i64.wrap ((k : Int) - 16) = (k : Int) - 16 := IntWalk.i64_in _ (by omega)
          have e1 : IntKind.i64.wrap ((k : Int) - 15) = (k : Int) - 15 := IntWalk.i64_in _ (by omega)
          have e2 : IntKind.i64.wrap ((k : Int) - 7) = (k : Int) - 7 := IntWalk.i64_in _ (by omega)
          have e3 : IntKind.i64.wrap ((k : Int) - 2) = (k : Int) - 2 := IntWalk.i64_in _ (by omega)
          have t0 : ((k : Int) - 16).toNat = k - 16 := by omega
          have t1 : ((k : Int) - 15).toNat = k - 15 := by omega
          have t2 : ((k : Int) - 7).toNat = k - 7 := by omega
          have t3 : ((k : Int) - 2).toNat = k - 2 := by omega
          have p0 : 0 ≤ (k : Int) - 16 := by omega
          have p1 : 0 ≤ (k : Int) - 15 := by omega
          have p2 : 0 ≤ (k : Int) - 7 := by omega
          have p3 : 0 ≤ (k : Int) - 2 := by omega
          have q0 : (k : Int) - 16 < 64 := by omega
          have q1 : (k : Int) - 15 < 64 := by omega
          have q2 : (k : Int) - 7 < 64 := by omega
          have q3 : (k : Int) - 2 < 64 := by omega
          have q4 : (k : Int) < 64 := by omega
          have q5 : (16 : Int) ≤ (k : Int) := by omega
          have q6 : (15 : Int) ≤ (k : Int) := by omega
          have q7 : (7 : Int) ≤ (k : Int) := by omega
          have q8 : (2 : Int) ≤ (k : Int) := by omega
          go_wp2
          refine region_still (by kernel_rfl) (by kernel_rfl) ?_
          repeat still_step
          refine wpStill_nil ?_
          go_wp2
          refine region_tail 29 (by kernel_rfl) (by kernel_rfl) ?_
          simp only [List.take_succ_cons, List.take_zero, List.drop_succ_cons, List.drop_zero]
          repeat (first | still_call (rotr_still _ _ (by decide) (by decide) _) | still_step)
          refine wpStill_nil ?_
          go_wp2
          go_roundw
          case rel =>
            exact ⟨k + 1, by omega, by omega, by go_num, (h.next _ (sched_walk b k hk1)).drew.drew⟩
          case measure => simp [intOf]; omega
        · have hr1 := h.r1
          have hr2 : wr.rowIs (w.heap.size + 1 + 1) 65 64 (fun j => .int .u32 ((sched b j).toNat : Int)) :=
            h.r2.congr (fun j hj => by rw [wordsTo_lt b k j (by omega)])
          have hbl := h.hb
          clear h
          go_wp2_with (first
            | (refine load_whole (by rfl) 65 (.tmp 3) (by rfl) (w.heap.size + 1 + 1) _ _ _ hr2 (by rfl) _ Tryd.underlying65 rfl (by kernel_rfl) ?_)
            | (refine store_whole (by rfl) 65 (.tmp 2) (.tmp 84) (by rfl) (w.heap.size + 1) _ _ _ _ hr1 (by rfl) _ (by rfl) (by kernel_rfl) (size_cellsOf _ _) (cellsOf_at _ _) (fun _ _ => rfl) ?_
               intro w3 hr3 ho3))
          exact bodyPost_ret (results_row rfl _ (w.heap.size + 1) _ _ _ _ (by rfl) hr3 Tryd.underlying65 rfl (by kernel_rfl)) rfl ⟨rfl, ho3.below hbl (by omega)⟩
end Go.Proofs.YthdfbkfoljfbhaaDoor.Sha
