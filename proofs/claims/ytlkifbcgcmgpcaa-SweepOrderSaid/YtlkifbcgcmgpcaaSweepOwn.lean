/-
  The program's three functions of package sweep, as the bundle that the laws ask for.
-/
import Derived.Test.YtlkifbcgcmgpcaaSweepMost
import Derived.Test.YtlkifbcgcmgpcaaSweepHas
namespace Go.Proofs.Ytlkifbcgcmgpcaa.Sweep
open Go Go.RowKit

theorem sweepOwn : SweepHas :=
  ⟨fun e N hN t v w hv => votes_any e N hN t v w hv, fun e N hN L v w hv => fuse_any e N hN L v w hv, fun e N hN v w hv => most_any e N hN v w hv⟩
end Go.Proofs.Ytlkifbcgcmgpcaa.Sweep
