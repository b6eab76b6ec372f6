/-
  The program's own functions of package field, as the laws need them.
-/
import Derived.Test.YtihbcbkkggkcbaaFieldHas
import Derived.Test.YtihbcbkkggkcbaaFieldPut
import Derived.Test.YtihbcbkkggkcbaaFieldSplit
import Derived.Test.YtihbcbkkggkcbaaFieldNum
import Derived.Test.YtihbcbkkggkcbaaFieldWord
namespace Go.Proofs.Ytihbcbkkggkcbaa.Field
open Go Go.RowKit Go.Proofs.Ytihbcbkkggkcbaa.Aid Go.Proofs.Ytihbcbkkggkcbaa.Law01

theorem fieldOwn : FieldHas := ⟨put_own, split_own, number_own, take_own, word_own, name_own⟩
end Go.Proofs.Ytihbcbkkggkcbaa.Field
