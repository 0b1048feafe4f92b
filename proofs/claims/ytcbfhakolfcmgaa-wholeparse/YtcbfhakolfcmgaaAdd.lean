/-
  Proved here: what Add answers.
-/
import Derived.Test.YtcbfhakolfcmgaaCmp
import Derived.Test.YtcbfhakolfcmgaaLong
import Derived.Test.YtcbfhakolfcmgaaSmall
namespace Go.Proofs.Ytcbfhakolfcmgaa
open Go.RowKit

theorem own_made {B e n : Nat} {w : World} {v : Value} (h : w.ownsRow B e 1 v n (madeCells #[Value.int .u32 0] n).toList) : Own B e w v (List.replicate n 0) := by
  refine ⟨fun x hx => by have := List.eq_of_mem_replicate hx; omega, ?_⟩
  rw [toList_madeCells_one] at h
  rw [List.map_replicate, List.length_replicate]
  exact h

/-- What a maker of a number leaves. -/
def Made' (B : Nat) (w : World) (xs : List Nat) (en : Ending) (w' : World) : Prop := ∃ v, en = .returned v ∧ Own B 30 w' v xs ∧ Below B w w'

end Go.Proofs.Ytcbfhakolfcmgaa
