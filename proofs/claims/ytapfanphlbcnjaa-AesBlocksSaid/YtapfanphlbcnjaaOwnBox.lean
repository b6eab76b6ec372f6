/-
  What aes.values and aes.Box do: the S-box, as the program has it.
-/
import Derived.Test.YtapfanphlbcnjaaRefBoxes
namespace Go.Proofs.Ytapfanphlbcnjaa.Aes
open Go Go.RowKit Go.Proofs.Ytapfanphlbcnjaa.Aid

set_option maxRecDepth 100000 in
set_option maxHeartbeats 4000000 in
theorem values_any (w : World) :
    Calls Try.prog 18 #[] w fun x w' => x = .returned (.agg (byteRow 256 boxAt)) ∧ Below w.heap.size w w' := by
  obtain ⟨hz1, _⟩ := zero_of_info (boxes_zero _ rfl)
  go_enter Try.func18, Try.ntmps18
  go_wp2_with (first
    | (refine build_named (by rfl) 23 _ (by rfl) (byteRow 256 boxAt) (by kernel_rfl) ?_)
    | (refine store_whole (by rfl) 23 (.tmp 0) (.tmp 1) (by rfl) w.heap.size _ 256 (fun _ => .int .u8 0) (fun j => .int .u8 ((boxAt j).toNat : Int)) (by exact row_new w _ _ 256 _ (size_cellsOf _ _) (cellsOf_at _ _)) (by rfl) _ (by rfl) (by kernel_rfl) (size_cellsOf _ _) (cellsOf_at _ _) (fun _ _ => rfl) ?_
       intro w2 hr2 ho2))
  exact bodyPost_ret (results_row rfl _ w.heap.size _ _ _ _ (by rfl) hr2 Try.underlying23 rfl (by kernel_rfl)) rfl ⟨rfl, ho2.below ((Below.refl _ _).alloc (Nat.le_refl _) _) (Nat.le_refl _)⟩

set_option maxRecDepth 100000 in
set_option maxHeartbeats 4000000 in
theorem ownBox_any (b : BitVec 8) (w : World) :
    Calls Try.prog 11 #[.int .u8 (b.toNat : Int)] w fun x w' => x = .returned (.int .u8 ((box b).toNat : Int)) ∧ Below w.heap.size w w' := by
  obtain ⟨hz1, _⟩ := zero_of_info (boxes_zero _ rfl)
  have hby := b.isLt
  have q0 : (0 : Int) ≤ (b.toNat : Int) := by omega
  have q1 : (b.toNat : Int) < 256 := by omega
  go_enter Try.func11, Try.ntmps11
  go_wp2_with fail
  refine (values_any w).mono ?_
  rintro x w1 ⟨rfl, hb1⟩
  go_wp2_with (refine store_whole (by rfl) 23 (.tmp 3) (.tmp 4) (by rfl) w1.heap.size _ 256 (fun _ => .int .u8 0) (fun j => .int .u8 ((boxAt j).toNat : Int)) (by exact row_new w1 _ _ 256 _ (size_cellsOf _ _) (cellsOf_at _ _)) (by rfl) _ (by rfl) (by kernel_rfl) (size_cellsOf _ _) (cellsOf_at _ _) (fun _ _ => rfl) ?_
               intro w2 hr2 ho2
               have c0 : w2.cell? ⟨w1.heap.size, b.toNat, none⟩ = some (.int .u8 ((box b).toNat : Int)) := World.rowIs.cell hr2 hby
               have hb2 := ho2.below (hb1.alloc hb1.size _) hb1.size
               clear hr2 ho2)
  go_ret
  exact ⟨rfl, hb2⟩
end Go.Proofs.Ytapfanphlbcnjaa.Aes
