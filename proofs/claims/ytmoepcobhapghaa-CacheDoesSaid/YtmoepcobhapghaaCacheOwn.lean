/-
  The landed program's tables of numbers and texts: the bundle (Cache.cacheOwn), whole.
-/
import Derived.Test.YtmoepcobhapghaaTabNewI
