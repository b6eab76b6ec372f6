/-
  What aes.double does: 2 times a byte, as the program works it out.
-/
import Derived.Test.YtcdgdoeegehjhaaRefXored
namespace Go.Proofs.Ytcdgdoeegehjhaa.Aes
open Go Go.RowKit Go.Proofs.Ytcdgdoeegehjhaa.Aid

theorem double_nat : ∀ a : BitVec 8, bits .xor .u8 ((a.toNat : Int) * 2 % 256) ((a.toNat : Int) / 128 * 27) = ((xtime a).toNat : Int) := by decide +kernel
set_option maxRecDepth 100000 in
set_option maxHeartbeats 1000000 in
theorem double_any (a : BitVec 8) (w : World) :
    Calls Try.prog 26 #[.int .u8 (a.toNat : Int)] w fun x w' => x = .returned (.int .u8 ((xtime a).toNat : Int)) ∧ w' = w := by
  go_enter Try.func26, Try.ntmps26
  go_wp2
  go_ret
  exact ⟨by rw [double_nat]; rfl, rfl⟩
end Go.Proofs.Ytcdgdoeegehjhaa.Aes
