/-
  Proved here: what Uint and Sub answer of any numbers.
-/
import Derived.Test.YtnlajeinegampaaSub
import Derived.Test.YtnlajeinegampaaUint
namespace Go.Proofs.Ytnlajeinegampaa
open Go.RowKit

def uintN (n : Nat) : Nat := if n < 18446744073709551616 then n else 0
def uintB (n : Nat) : Bool := decide (n < 18446744073709551616)
def leB (a b : Nat) : Bool := decide (a ≤ b)

theorem uint_all (v : Value) (xs : List Nat) (w : World) (h : Num w v xs) :
    Calls Try.prog 40 #[v] w fun e w' => e = .returned (.tuple #[.int .u64 (uintN (val xs) : Nat), .bool (uintB (val xs))]) ∧ w' = w := by
  by_cases hs : val xs < 18446744073709551616
  · rw [show uintN (val xs) = val xs by simp [uintN, hs], show uintB (val xs) = true by simp [uintB, hs]]
    exact uint_yes v xs w h hs
  · rw [show uintN (val xs) = 0 by simp [uintN, hs], show uintB (val xs) = false by simp [uintB]; omega]
    exact uint_no v xs w h (by omega)
/-- What Sub leaves, either way. -/
def SubTold (B : Nat) (w : World) (a b : Nat) (en : Ending) (w' : World) : Prop := ∃ v, en = .returned (.tuple #[v, .bool (leB b a)]) ∧ Own B 40 w' v (lim (a - b)) ∧ Below B w w'
theorem sub_all (u v : Value) (xs ys : List Nat) (w : World) (hu : Num w u xs) (hv : Num w v ys) (hbx : xs.length ≤ 1099511627776) (hby : ys.length ≤ 1099511627776) :
    Calls Try.prog 115 #[u, v] w fun e w' => SubTold w.heap.size w (val xs) (val ys) e w' := by
  unfold SubTold
  by_cases hs : val ys ≤ val xs
  · rw [show leB (val ys) (val xs) = true by simp [leB, hs]]
    exact sub_yes u v xs ys w hu hv hbx hby hs
  · rw [show leB (val ys) (val xs) = false by simp [leB, hs], show val xs - val ys = 0 by omega]
    refine (sub_no u v xs ys w hu hv (by omega)).mono ?_
    rintro e w' ⟨rfl, q, rfl⟩
    exact ⟨_, rfl, Own.of_nil _ _ _, below_drewN (Below.refl _ _) q⟩
end Go.Proofs.Ytnlajeinegampaa
