/-
  What aes.values does: the S-box, as the program has it.
-/
import Derived.Test.YtcdgdoeegehjhaaRefBoxes
namespace Go.Proofs.Ytcdgdoeegehjhaa.Aes
open Go Go.RowKit Go.Proofs.Ytcdgdoeegehjhaa.Aid

set_option maxRecDepth 100000 in
set_option maxHeartbeats 4000000 in
theorem values_any (w : World) :
    Calls Try.prog 16 #[] w fun x w' => x = .returned (.agg (byteRow 256 boxAt)) ∧ Below w.heap.size w w' := by
  obtain ⟨hz1, _⟩ := zero_of_info (boxes_zero _ rfl)
  go_enter Try.func16, Try.ntmps16
  go_wp2_with (first
    | (refine build_named (by rfl) 38 _ (by rfl) (byteRow 256 boxAt) (by kernel_rfl) ?_)
    | (refine store_whole (by rfl) 38 (.tmp 0) (.tmp 1) (by rfl) w.heap.size _ 256 (fun _ => .int .u8 0) (fun j => .int .u8 ((boxAt j).toNat : Int)) (by exact row_new w _ _ 256 _ (size_cellsOf _ _) (cellsOf_at _ _)) (by rfl) _ (by rfl) (by kernel_rfl) (size_cellsOf _ _) (cellsOf_at _ _) (fun _ _ => rfl) ?_
       intro w2 hr2 ho2))
  exact bodyPost_ret (results_row rfl _ w.heap.size _ _ _ _ (by rfl) hr2 Try.underlying38 rfl (by kernel_rfl)) rfl ⟨rfl, ho2.below ((Below.refl _ _).alloc (Nat.le_refl _) _) (Nat.le_refl _)⟩
end Go.Proofs.Ytcdgdoeegehjhaa.Aes
