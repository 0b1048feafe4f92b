/-
  Proved here: plain facts on numbers and their limbs to the base 2^32. No condition.
-/
namespace Go.Proofs.Ytpokgdepopcppaa
/-- The number of some limbs, the lowest first. -/
def val : List Nat → Nat
  | [] => 0
  | x :: r => x + 4294967296 * val r
/-- Each limb is one. -/
def limbs (xs : List Nat) : Prop := ∀ x ∈ xs, x < 4294967296
end Go.Proofs.Ytpokgdepopcppaa
