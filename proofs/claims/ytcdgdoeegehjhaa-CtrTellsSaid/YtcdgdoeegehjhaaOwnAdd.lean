/-
  What aes.add does: two blocks, byte by byte.
-/
import Derived.Test.YtcdgdoeegehjhaaRefXored
namespace Go.Proofs.Ytcdgdoeegehjhaa.Aes
open Go Go.RowKit Go.Proofs.Ytcdgdoeegehjhaa.Aid

set_option maxRecDepth 100000 in
set_option maxHeartbeats 1000000 in
theorem add_any (x y : Nat → BitVec 8) (X Y : Array Value) (hX : X.size = 16) (hXi : ∀ i, i < 16 → X[i]? = some (.int .u8 ((x i).toNat : Int))) (hY : Y.size = 16) (hYi : ∀ i, i < 16 → Y[i]? = some (.int .u8 ((y i).toNat : Int))) (w : World) :
    Calls Try.prog 18 #[.agg X, .agg Y] w fun r w' => r = .returned (.agg (byteRow 16 (addKey x y))) ∧ Below w.heap.size w w' := by
  have hr : ∀ (Z : Array Value), Z = Array.replicate 16 (.int .u8 0) → ∃ W, W = ((w.alloc (.cells X 22)).alloc (.cells Y 22)).alloc (.cells Z 22) ∧ RowB W w.heap.size 22 16 (setTo x (addKey x y) 0) ∧ RowB W (w.heap.size + 1) 22 16 y ∧ W.rowIs (w.heap.size + 2) 22 16 (fun _ => .int .u8 0) ∧ Below w.heap.size w W := fun Z hZ => by
    have s1 : (w.alloc (.cells X 22)).heap.size = w.heap.size + 1 := by simp
    have s2 : ((w.alloc (.cells X 22)).alloc (.cells Y 22)).heap.size = w.heap.size + 2 := by simp
    have r1 := ((row_new w X 22 16 (fun j => .int .u8 ((setTo x (addKey x y) 0 j).toNat : Int)) hX (fun i hi => by rw [hXi i hi]; rfl)).alloc (.cells Y 22)).alloc (.cells Z 22)
    have r2 := (row_new (w.alloc (.cells X 22)) Y 22 16 (fun j => .int .u8 ((y j).toNat : Int)) hY hYi).alloc (.cells Z 22)
    have r3 := row_new ((w.alloc (.cells X 22)).alloc (.cells Y 22)) Z 22 16 _ (by rw [hZ]; simp) (zeros16 Z hZ)
    rw [s1] at r2
    rw [s2] at r3
    exact ⟨_, rfl, r1, r2, r3, (((Below.refl _ _).alloc (Nat.le_refl _) _).alloc (by simp) _).alloc (by rw [s2]; omega) _⟩
  clear hXi hYi
  go_enter Try.func18, Try.ntmps18
  go_wp2
  obtain ⟨W, hW, h0, h1, h2, hb⟩ := hr _ rfl
  change Code.wp _ _ _ _ (((w.alloc (.cells X 22)).alloc (.cells Y 22)).alloc (.cells (Array.replicate 16 (.int .u8 0)) 22))
  rw [← hW]
  clear hW hr
  go_loopw [5, 6] (fun _ i wr => ∃ k : Nat, k ≤ 16 ∧ i = .int .i64 (k : Int) ∧ Hid (RowB wr w.heap.size 22 16 (setTo x (addKey x y) k)) ∧ Hid (RowB wr (w.heap.size + 1) 22 16 y) ∧ Hid (wr.rowIs (w.heap.size + 2) 22 16 (fun _ => .int .u8 0)) ∧ Below w.heap.size w wr) (fun _ i _ => 16 - (intOf i).toNat)
  case atStart => exact ⟨0, by omega, rfl, h0, h1, h2, hb⟩
  case round =>
    clear h0 h1 h2 hb
    obtain ⟨k, hk, rfl, h0, h1, h2, hb⟩ := hrel
    by_cases hlt : k < 16
    · have c0 : wr.cell? ⟨w.heap.size, k, none⟩ = some (.int .u8 ((x k).toNat : Int)) := by
        rw [World.rowIs.cell h0.out hlt]
        unfold setTo
        rw [if_neg (by omega)]
      have c1 : wr.cell? ⟨w.heap.size + 1, k, none⟩ = some (.int .u8 ((y k).toNat : Int)) := World.rowIs.cell h1.out hlt
      have f0 : wr.frozen? ⟨w.heap.size, k, none⟩ = false := World.rowIs.frozen h0.out k
      have q0 : (0 : Int) ≤ (k : Int) := by omega
      have q1 : (k : Int) < 16 := by omega
      go_wp2
      refine region_tail 8 (by kernel_rfl) (by kernel_rfl) ?_
      simp only [List.take_succ_cons, List.take_zero, List.drop_succ_cons, List.drop_zero]
      repeat still_step
      refine wpStill_nil ?_
      go_wp2
      exact ⟨⟨k + 1, by omega, ival (by omega), setTo_next h0.out _ (xor8 _ _), World.rowIs.setOther (a := ⟨w.heap.size, k, none⟩) h1.out (by simp) _, World.rowIs.setOther (a := ⟨w.heap.size, k, none⟩) h2.out (by simp) _, (hb.setCell (p := ⟨w.heap.size, k, none⟩) (by simp) _).drew⟩, by simp [intOf]; omega⟩
    · have q1 : ¬ (k : Int) < 16 := by omega
      have hr : wr.rowIs w.heap.size 22 16 (fun j => .int .u8 ((addKey x y j).toNat : Int)) := World.rowIs.congr h0.out (fun j hj => by unfold setTo; rw [if_pos (by omega)])
      have hz := h2.out
      go_wp2_with (first
        | (refine load_whole (by rfl) 22 (.tmp 2) (by rfl) _ _ _ _ hr (by rfl) _ Try.underlying22 rfl (by kernel_rfl) ?_)
        | (refine store_whole (by rfl) 22 (.tmp 4) (.tmp 18) (by rfl) (w.heap.size + 2) _ 16 _ _ hz (by rfl) _ (by rfl) (by kernel_rfl) (size_cellsOf _ _) (cellsOf_at _ _) (fun _ _ => rfl) ?_
           intro w6 hr6 ho6))
      exact bodyPost_ret (results_row rfl _ (w.heap.size + 2) _ _ _ _ (by rfl) hr6 Try.underlying22 rfl (by kernel_rfl)) rfl ⟨rfl, ho6.below hb (by omega)⟩
end Go.Proofs.Ytcdgdoeegehjhaa.Aes
