/-
  Nothing is laid here.
-/
import Derived.Shelf.LaysM
import Derived.Shelf.Strconv.Clone
import Derived.Test.YtdkcgfcmmdkmpaaProg
