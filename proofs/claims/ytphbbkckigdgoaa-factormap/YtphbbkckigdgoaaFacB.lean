/-
  Proved here: plain facts for package factor: rows of ints in both words, where a variable stands in a scope.
-/
import Derived.Test.YtphbbkckigdgoaaBoxA
import Derived.Test.YtphbbkckigdgoaaFacMath
import Derived.Test.YtphbbkckigdgoaaSortMathAll
import Derived.Test.YtphbbkckigdgoaaSetSJAll
import Derived.Deep.LoopGhost
import Derived.Deep.CutRange
namespace Go.Proofs.Ytphbbkckigdgoaa
open Go.RowKit Go.Shelf Go.Lib Go.Sort
theorem RK.rg {k : IntKind} {w : World} {v : Value} {zs : List Int} (h : RK k w v zs) : RG (Value.int k) w v zs := by
  obtain ⟨ao, cap, e, h1, h2, h3, _, h5⟩ := h
  refine ⟨ao, cap, e, h1, h2, h3, fun i x hi => ?_⟩
  have hl := (List.getElem?_eq_some_iff.1 hi).1
  have := h5 i hl
  rw [List.getD_eq_getElem?_getD, hi] at this
  exact this
theorem RG.rk {k : IntKind} {w : World} {v : Value} {zs : List Int} (h : RG (Value.int k) w v zs) (hz : ∀ i, i < zs.length → k.min ≤ zs.getD i 0 ∧ zs.getD i 0 ≤ k.max) : RK k w v zs := by
  obtain ⟨ao, cap, e, h1, h2, h3, h5⟩ := h
  exact ⟨ao, cap, e, h1, h2, h3, hz, fun i hi => h5 i _ (by simp [List.getD_eq_getElem?_getD, hi])⟩
theorem cell_drewF {w : World} {p : Addr} {v : Value} (h : w.cell? p = some v) (q : Nat) : (w.drewN q).cell? p = some v := by
  rw [← h]; exact World.cell?_of_block (by rw [heap_drewG])
/-- How many values a variable has, 0 if it is not in. -/
def szOf : List Int → List Int → Int → Int
  | x :: xs, z :: zs, v => if x = v then z else szOf xs zs v
  | _, _, _ => 0
end Go.Proofs.Ytphbbkckigdgoaa
