/-
  The landed program's tables of texts and spans: the bundle (Cache.kindsOwn), whole.
-/
import Derived.Test.YtmoepcobhapghaaTabNewS
