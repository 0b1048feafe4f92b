/-
  Proved here: small steps from world to world.
-/
import Derived.Test.YtcbfhakolfcmgaaTrim
import Derived.Test.YtcbfhakolfcmgaaPush
namespace Go.Proofs.Ytcbfhakolfcmgaa
open Go.RowKit

theorem belowA (w : World) (o : Obj) : Below w.heap.size w (w.alloc o) := (Below.refl _ _).alloc (Nat.le_refl _) o
theorem belowDN (w : World) (q : Nat) : Below w.heap.size w (w.drewN q) := below_drewN (Below.refl _ _) q
theorem belowK {w w' : World} {k : Nat} (h : w' = w.drewN k) : Below w.heap.size w w' := by rw [h]; exact belowDN _ _
/-- One step on. -/
theorem bstep {w wr w' : World} (h : Below w.heap.size w wr) (hb : Below wr.heap.size wr w') : Below w.heap.size w w' := h.trans (hb.mono h.size)
end Go.Proofs.Ytcbfhakolfcmgaa
