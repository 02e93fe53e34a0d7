/-
  Nothing is sorted in this translation.
-/
import Derived.Shelf.SlSortCmp.NoneTotal
import Derived.Shelf.SlGeneric
import Derived.Test.YtogfjfniplikfaaProg
