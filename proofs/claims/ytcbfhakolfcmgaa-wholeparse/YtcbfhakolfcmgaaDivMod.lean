/-
  Proved here: what DivMod answers.
-/
import Derived.Test.YtcbfhakolfcmgaaLong2
import Derived.Test.YtcbfhakolfcmgaaFresh
import Derived.Test.YtcbfhakolfcmgaaSmall
namespace Go.Proofs.Ytcbfhakolfcmgaa
open Go.RowKit

def errZ (b : Nat) : Int := if b = 0 then 11 else 0
def modZ (a b : Nat) : Nat := if b = 0 then 0 else a % b
/-- What DivMod leaves. -/
def DivEnd (w : World) (a b : Nat) (e : Ending) (w' : World) : Prop :=
  ∃ q r, e = .returned (.tuple #[q, r, .int .i64 (errZ b)]) ∧ Own w.heap.size 30 w' q (lim (a / b)) ∧ Own w.heap.size 30 w' r (lim (modZ a b)) ∧ (q.ownBlock = none ∨ q.ownBlock ≠ r.ownBlock) ∧ Below w.heap.size w w'

theorem lim_len_zero {n : Nat} (h : (lim n).length = 0) : n = 0 := by
  rw [← val_lim n, List.length_eq_zero_iff.1 h]; rfl
theorem lim_len_one {n : Nat} (h : (lim n).length = 1) : n < 4294967296 ∧ n ≠ 0 ∧ lim n = [n] := by
  have h1 := lim_lt_of_len (n := n) (k := 1) (by omega)
  rw [Nat.pow_one] at h1
  have h0 : n ≠ 0 := by intro e; subst e; simp [lim_zero] at h
  refine ⟨h1, h0, ?_⟩
  rw [lim_pos h0, Nat.mod_eq_of_lt h1, Nat.div_eq_of_lt h1, lim_zero]

end Go.Proofs.Ytcbfhakolfcmgaa
