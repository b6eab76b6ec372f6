/-
  Package ctr keeps the bundle.
-/
import Derived.Test.YtcdgdoeegehjhaaCtrHas
import Derived.Test.YtcdgdoeegehjhaaCtrFlip
namespace Go.Proofs.Ytcdgdoeegehjhaa.Ctr
open Go Go.RowKit Go.Proofs.Ytcdgdoeegehjhaa.Aid Go.Proofs.Ytcdgdoeegehjhaa.Aes

theorem ctrOwn : CtrHas where
  next := fun at_ by_ hby X hX hXi W => ctrNext_any at_ by_ hby X hX hXi W
  flip := fun key at_ e X Y hX hXi hY hYi A n c W hs hn => ctrFlip_any key at_ e X Y hX hXi hY hYi A n c W hs hn
end Go.Proofs.Ytcdgdoeegehjhaa.Ctr
