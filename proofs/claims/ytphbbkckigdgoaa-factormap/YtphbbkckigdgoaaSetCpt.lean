/-
  Proved here: mathematics of lists from which what repeats its forerunner is left out (no program); and a few plain facts on rows of the call's own.
-/
import Derived.Test.YtphbbkckigdgoaaSortDIAll
import Derived.Lib.SliceRun
namespace Go.Proofs.Ytphbbkckigdgoaa
open Go.Shelf Go.RowKit Go.Lib Go.Sort
section
variable {α : Type}
/-- what is left behind p -/
def cptF (eq : α → α → Bool) : α → List α → List α
  | _, [] => []
  | p, x :: l => if eq x p then cptF eq x l else x :: cptF eq x l
def cpt (eq : α → α → Bool) : List α → List α
  | [] => []
  | x :: l => x :: cptF eq x l
variable {eq : α → α → Bool}
/-- the first k things are all kept -/
def CpA (eq : α → α → Bool) (L : List α) (k : Nat) : Prop := ∃ p, L[k - 1]? = some p ∧ L.take k ++ cptF eq p (L.drop k) = cpt eq L
theorem CpA.all {L : List α} {k : Nat} (h : CpA eq L k) (hk : L.length ≤ k) : cpt eq L = L := by
  obtain ⟨p, _, h⟩ := h
  rw [← h, List.drop_of_length_le hk, List.take_of_length_le hk]
  simp [cptF]
end
section
variable {α : Type} {enc : α → Value}
theorem drewN_same (w : World) : ∀ m : Nat, (w.drewN m).os = w.os ∧ (w.drewN m).tape = w.tape ∧ (w.drewN m).output = w.output
  | 0 => ⟨rfl, rfl, rfl⟩
  | m + 1 => drewN_same w.drew m
end
end Go.Proofs.Ytphbbkckigdgoaa
