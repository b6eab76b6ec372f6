/-
  The program's own functions of package aes, as the bundle that the laws of layer 3 need; it has no package variable, so nothing is asked of a world.
-/
import Derived.Test.YtapfanphlbcnjaaOwnEncrypt
import Derived.Test.YtapfanphlbcnjaaAesHas
import Derived.Test.YtapfanphlbcnjaaBytesIn
import Derived.Test.YtapfanphlbcnjaaRows
import Derived.ProofKit
namespace Go.Proofs.Ytapfanphlbcnjaa.Aes
open Go Go.RowKit Go.Proofs.Ytapfanphlbcnjaa.Aid

theorem own : ownKnob Try.prog.godebug = none := by kernel_rfl
theorem laidOut : laidOutB Try.prog = true := by kernel_rfl
theorem aesOwn : AesHas (fun _ => True) where
  keep := fun _ _ _ _ => trivial
  times := fun a b W _ => (ownTimes_any a b W).mono fun _ _ h => ⟨h.1, by rw [h.2]; exact Below.refl _ _⟩
  box := fun b W _ => ownBox_any b W
  keys := fun key X h1 h2 W _ => ownKeys_any key X h1 h2 W
  encrypt := fun key block X Y h1 h2 h3 h4 W _ => ownEncrypt_any key block X Y h1 h2 h3 h4 W
end Go.Proofs.Ytapfanphlbcnjaa.Aes
