/-
  Proved here: nothing: the seat has no slices.Reverse.
-/
import Derived.Test.YthdpomgpcblpeaaGreatProg
