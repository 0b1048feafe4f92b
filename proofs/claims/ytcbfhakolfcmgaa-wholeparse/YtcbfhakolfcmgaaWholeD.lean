/-
  Proved here: what Sub and Text of package whole answer.
-/
import Derived.Test.YtcbfhakolfcmgaaWholeC
import Derived.Test.YtcbfhakolfcmgaaTxtMath
namespace Go.Proofs.Ytcbfhakolfcmgaa
open Go.RowKit

theorem zv_neg (n : Bool) (x : Nat) : -(zv n x) = zv (!n) x := by cases n <;> simp [zv]

/-- How a whole number is written. -/
def ztxt (neg : Bool) (n : Nat) : ByteArray := if neg = true ∧ n ≠ 0 then ⟨#[45]⟩ ++ txt n else txt n
theorem bl_pos {n : Nat} : 0 < bl n ↔ n ≠ 0 := by
  constructor
  · intro h h0; subst h0; simp [bl_zero] at h
  · intro h
    obtain ⟨m, e, _⟩ := bl_bounds h
    omega

end Go.Proofs.Ytcbfhakolfcmgaa
