/-
  Proved here: package radix's At at the three types.
-/
import Derived.Test.YtpokgdepopcppaaRadA
namespace Go.Proofs.Ytpokgdepopcppaa
open Go.RowKit

theorem at_err {ss ds : List Int} (h : cntE ss ≠ 0) : atE ss ds = cntE ss ∧ atN ss ds = 0 := by simp [atE, atN, h]
theorem at_shape {ss ds : List Int} (h : cntE ss = 0) (h2 : ds.length ≠ ss.length) : atE ss ds = 60 ∧ atN ss ds = 0 := by simp [atE, atN, h, h2]
theorem at_bad {ss ds : List Int} (h : cntE ss = 0) (h2 : ds.length = ss.length) (h3 : bad ss ds = true) : atE ss ds = 3 ∧ atN ss ds = 0 := by simp [atE, atN, h, h2, h3]
theorem at_ok {ss ds : List Int} (h : cntE ss = 0) (h2 : ds.length = ss.length) (h3 : bad ss ds = false) : atE ss ds = 0 ∧ atN ss ds = pl ss ds ss.length := by simp [atE, atN, h, h2, h3]
theorem bad_not {ss ds : List Int} (h : ∀ i, i < ss.length → badAt ss ds i = false) : bad ss ds = false := by
  unfold bad
  rw [List.any_eq_false]
  intro i hi
  rw [h i (List.mem_range.1 hi)]
  exact Bool.false_ne_true
theorem badAt_eq (ss ds : List Int) (i : Nat) : badAt ss ds i = (isNeg (ds.getD i 0) || decide (ss.getD i 0 ≤ ds.getD i 0)) := rfl
theorem fits_place (ss ds : List Int) (h3 : bad ss ds = false) (hp : pr ss ≤ 2147483647) (k : Nat) (hk : k < ss.length) :
    0 ≤ pl ss ds k ∧ 0 ≤ pl ss ds k * ss.getD k 0 ∧ pl ss ds k * ss.getD k 0 + ds.getD k 0 ≤ 2147483647 ∧ pl ss ds k * ss.getD k 0 ≤ 2147483647 ∧ pl ss ds k ≤ 2147483647 := by
  have h := bad_no h3
  have h1 := ss_ones h
  have a := pl_bd ss ds h k (by omega)
  have b := pl_bd ss ds h (k + 1) (by omega)
  have c := pr_take_le ss h1 k
  have d := pr_take_le ss h1 (k + 1)
  have e := h k hk
  rw [pl] at b
  have f : 0 ≤ pl ss ds k * ss.getD k 0 := Int.mul_nonneg a.1 (by omega)
  omega

end Go.Proofs.Ytpokgdepopcppaa
