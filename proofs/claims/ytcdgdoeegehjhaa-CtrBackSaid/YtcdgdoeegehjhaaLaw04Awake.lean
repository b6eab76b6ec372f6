/-
  bartizanlaw04.awake, by what ctr.Next and ctr.Flip do: true.
-/
import Derived.Test.YtcdgdoeegehjhaaCtrHas
namespace Go.Proofs.Ytcdgdoeegehjhaa.Ctr
open Go Go.RowKit Go.Proofs.Ytcdgdoeegehjhaa.Aid Go.Proofs.Ytcdgdoeegehjhaa.Aes

set_option maxRecDepth 100000 in
set_option maxHeartbeats 2000000 in
theorem awake_any (C : CtrHas) (w : World) :
    Calls Try.prog 6 #[] w fun e w' => e = .returned (.bool true) ∧ Below w.heap.size w w' := by
  go_enter Try.func6, Try.ntmps6
  go_wp2_with (first
    | (refine build_named (by rfl) 22 _ (by rfl) (cellsOf 16 fun _ => .int .u8 0) (by kernel_rfl) ?_)
    | (refine store_whole (by rfl) 22 (.tmp 1) (.tmp 4) (by rfl) w.heap.size _ 16 (fun _ => .int .u8 0) (fun _ => .int .u8 0) (by exact row_new w _ _ 16 _ (by rfl) (zeros16 _ (by rfl))) (by rfl) _ (by rfl) (by kernel_rfl) (size_cellsOf _ _) (cellsOf_at _ _) (fun _ _ => rfl) ?_
       intro w1 hr1 ho1
       have hl1 : Below w.heap.size w w1 := ho1.below ((Below.refl _ _).alloc (Nat.le_refl _) _) (Nat.le_refl _)
       clear ho1))
  go_loopw [2] (fun i wr => ∃ k : Nat, k ≤ 16 ∧ i = .int .i64 (k : Int) ∧ Hid (RowB wr w.heap.size 22 16 (setTo (fun _ => 0) (fun _ => 255) k)) ∧ Hid (Below w.heap.size w wr)) (fun i _ => 16 - (intOf i).toNat)
  case atStart => exact ⟨0, by omega, rfl, World.rowIs.congr hr1 (fun _ _ => rfl), hl1⟩
  case round =>
    clear hr1 hl1
    obtain ⟨k, hk, rfl, h, hb⟩ := hrel
    by_cases hlt : k < 16
    · have c0 : wr.cell? ⟨w.heap.size, k, none⟩ = some (.int .u8 ((0 : BitVec 8).toNat : Int)) := by
        rw [World.rowIs.cell h.out hlt]
        unfold setTo
        rw [if_neg (by omega)]
      have f0 : wr.frozen? ⟨w.heap.size, k, none⟩ = false := World.rowIs.frozen h.out k
      have q0 : (0 : Int) ≤ (k : Int) := by omega
      have q1 : (k : Int) < 16 := by omega
      go_wp2
      exact ⟨⟨k + 1, by omega, ival (by omega), setTo_next h.out _ rfl, hb.out.setCell (p := ⟨w.heap.size, k, none⟩) (Nat.le_refl _) _⟩, by simp [intOf]; omega⟩
    · have q1 : ¬ (k : Int) < 16 := by omega
      have hr : wr.rowIs w.heap.size 22 16 (fun j => .int .u8 (((255 : BitVec 8)).toNat : Int)) := World.rowIs.congr h.out (fun j hj => by unfold setTo; rw [if_pos (by omega)])
      have hbw := hb.out
      have hlt0 : w.heap.size < wr.heap.size := hr.lt
      clear h hb
      have hsl : SliceOf (wr.alloc (.cells #[.int .u8 0, .int .u8 0] 5)) (wr.alloc (.cells #[.int .u8 0, .int .u8 0] 5)).heap.size 2 zk (.slice (some ⟨wr.heap.size, 0, none⟩) 2 2) :=
        ⟨_, 2, rfl, Nat.le_refl _, fun _ => ⟨wr.heap.size, 0, rfl, by simp, fun j hj => by
          rw [World.cell?_alloc_new]
          have : j = 0 ∨ j = 1 := by omega
          rcases this with rfl | rfl <;> rfl⟩⟩
      have heq : ∀ W, (binOp .eql 22 (.agg (byteRow 16 (nextB (fun _ => 255) 1))) (.agg (byteRow 16 zk))).run Try.prog W = .ok (.bool true) W := eq_same16 _ _ full_next
      obtain ⟨NX, hNX⟩ : ∃ NX, NX = byteRow 16 (nextB (fun _ => 255) 1) := ⟨_, rfl⟩
      rw [← hNX] at heq
      have HNX := Lib.hid hNX
      clear hNX
      go_wp2_with (first
        | (refine build_named (by rfl) 22 _ (by rfl) (byteRow 16 zk) (by kernel_rfl) ?_)
        | (go_at_call 8
           refine (C.flip zk zk zk _ _ (size_cellsOf _ _) (cellsOf_at _ _) (size_cellsOf _ _) (cellsOf_at _ _) (some ⟨wr.heap.size, 0, none⟩) 2 2 _ hsl (by omega)).mono ?_
           rintro x w4 ⟨A', c', rfl, hs4, hb4⟩
           have hb4' : Below wr.heap.size wr w4 := ((Below.refl _ wr).alloc (Nat.le_refl _) _).trans (hb4.mono (by simp))
           have hr4 := hr.of_block (hb4'.block _ hlt0)
           have hl4 := hbw.trans (hb4'.mono hbw.size)
           clear hr hbw hb4 hb4' hsl
           obtain ⟨A2, c2, ea, hle, r1⟩ := hs4
           simp only [Value.slice.injEq, true_and] at ea
           obtain ⟨rfl, rfl⟩ := ea
           obtain ⟨sb, so, rfl, _, hc⟩ := r1 (by omega)
           have d0 : w4.cell? ⟨sb, so, none⟩ = some (.int .u8 102) := by have := hc 0 (by omega); rw [zero_0] at this; exact this
           have d1 : w4.cell? ⟨sb, so + 1, none⟩ = some (.int .u8 233) := by have := hc 1 (by omega); rw [zero_1] at this; exact this
           have hsb : sb < w4.heap.size := block_lt_of_cell d0
           clear hc r1)
        | (refine load_whole (by rfl) 22 (.tmp 1) (by rfl) _ _ _ _ hr4 (by rfl) _ Try.underlying22 rfl (by kernel_rfl) ?_)
        | (go_at_call 10
           refine (C.next (fun _ => 255) 1 (by decide) _ (size_cellsOf _ _) (cellsOf_at _ _) w4).mono ?_
           rintro x w5 ⟨rfl, hb5⟩
           rw [← HNX.out]
           have d0' : w5.cell? ⟨sb, so, none⟩ = some (.int .u8 102) := (hb5.cell (p := ⟨sb, so, none⟩) hsb).trans d0
           have d1' : w5.cell? ⟨sb, so + 1, none⟩ = some (.int .u8 233) := (hb5.cell (p := ⟨sb, so + 1, none⟩) hsb).trans d1
           have hl5 := hl4.trans (hb5.mono hl4.size)
           clear hb5 d0 d1 hr4 hl4))
      go_ret
      exact ⟨rfl, hl5⟩
end Go.Proofs.Ytcdgdoeegehjhaa.Ctr
