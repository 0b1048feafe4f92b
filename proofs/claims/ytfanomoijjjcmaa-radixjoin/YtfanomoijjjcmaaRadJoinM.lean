/-
  Proved here: plain mathematics: bases one behind the other. No condition.
-/
import Derived.Test.YtfanomoijjjcmaaRadBackM
namespace Go.Proofs.Ytfanomoijjjcmaa

theorem getD_left {a b : List Int} {i : Nat} (h : i < a.length) : (a ++ b).getD i 0 = a.getD i 0 := by
  rw [List.getD_eq_getElem?_getD, List.getD_eq_getElem?_getD, List.getElem?_append_left h]
theorem getD_right {a b : List Int} {i : Nat} : (a ++ b).getD (a.length + i) 0 = b.getD i 0 := by
  rw [List.getD_eq_getElem?_getD, List.getD_eq_getElem?_getD, List.getElem?_append_right (by omega), Nat.add_sub_cancel_left]
theorem pl_left (ss tt x y : List Int) (hx : x.length = ss.length) : ∀ k, k ≤ ss.length → pl (ss ++ tt) (x ++ y) k = pl ss x k
  | 0, _ => rfl
  | k + 1, h => by rw [pl, pl, pl_left ss tt x y hx k (by omega), getD_left (by omega), getD_left (by omega)]
theorem pl_right (ss tt x y : List Int) (hx : x.length = ss.length) : ∀ k, k ≤ tt.length → pl (ss ++ tt) (x ++ y) (ss.length + k) = pl ss x ss.length * pr (tt.take k) + pl tt y k
  | 0, _ => by rw [Nat.add_zero, pl_left ss tt x y hx _ (Nat.le_refl _)]; simp [pr, pl]
  | k + 1, h => by
    have ih := pl_right ss tt x y hx k (by omega)
    rw [← Nat.add_assoc, pl, ih, getD_right, pr_take tt k (by omega), pl]
    have : (x ++ y).getD (ss.length + k) 0 = y.getD k 0 := by rw [← hx]; exact getD_right
    rw [this, Int.add_mul, Int.mul_assoc, Int.add_assoc]
theorem pl_join (ss tt x y : List Int) (hx : x.length = ss.length) : pl (ss ++ tt) (x ++ y) (ss ++ tt).length = pl ss x ss.length * pr tt + pl tt y tt.length := by
  have := pl_right ss tt x y hx tt.length (Nat.le_refl _)
  rw [List.take_length] at this
  rw [List.length_append, this]
end Go.Proofs.Ytfanomoijjjcmaa
