/-
  Proved here: plain facts on numbers that lie in memory, limb by limb, and on rows that a call made for itself. No condition.
-/
import Derived.Test.YtphbbkckigdgoaaMathAll
import Derived.WalkKit
import Derived.Below
import Derived.BigQuiet
namespace Go.Proofs.Ytphbbkckigdgoaa
open Go.RowKit

/-- A limb as a cell. -/
def U (x : Nat) : Value := .int .u32 (x : Int)
/-- A number that can be read: its limbs are xs. -/
def Num (w : World) (v : Value) (xs : List Nat) : Prop :=
  limbs xs ∧ ∃ ao cap, v = .slice ao xs.length cap ∧ xs.length ≤ cap ∧ cap ≤ maxLen ∧ (ao = none → cap = 0) ∧
    ∀ j, j < xs.length → ∃ b off, ao = some ⟨b, off, none⟩ ∧ w.cell? ⟨b, off + j, none⟩ = some (U (xs.getD j 0))
/-- A number in a row of the call's own. -/
def Own (B e : Nat) (w : World) (v : Value) (xs : List Nat) : Prop := limbs xs ∧ w.ownsRow B e 1 v xs.length (xs.map U)

theorem Num.lt {w : World} {v : Value} {xs : List Nat} (h : Num w v xs) : limbs xs := h.1
theorem Own.lt {B e : Nat} {w : World} {v : Value} {xs : List Nat} (h : Own B e w v xs) : limbs xs := h.1

theorem Own.block {B e : Nat} {w : World} {v : Value} {xs : List Nat} (h : Own B e w v xs) : ∀ k, v.ownBlock = some k → B ≤ k ∧ k < w.heap.size := World.ownsRow.lt h.2

end Go.Proofs.Ytphbbkckigdgoaa
