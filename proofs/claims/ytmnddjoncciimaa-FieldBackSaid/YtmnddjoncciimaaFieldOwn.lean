/-
  The program's own functions of package field, as the laws need them.
-/
import Derived.Test.YtmnddjoncciimaaFieldHas
import Derived.Test.YtmnddjoncciimaaFieldPut
import Derived.Test.YtmnddjoncciimaaFieldSplit
import Derived.Test.YtmnddjoncciimaaFieldNum
import Derived.Test.YtmnddjoncciimaaFieldWord
namespace Go.Proofs.Ytmnddjoncciimaa.Field
open Go Go.RowKit Go.Proofs.Ytmnddjoncciimaa.Aid Go.Proofs.Ytmnddjoncciimaa.Law01

theorem fieldOwn : FieldHas := ⟨put_own, split_own, number_own, take_own, word_own, name_own⟩
end Go.Proofs.Ytmnddjoncciimaa.Field
