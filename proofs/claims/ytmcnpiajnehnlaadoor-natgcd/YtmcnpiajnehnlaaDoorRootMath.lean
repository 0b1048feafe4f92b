/-
  Proved here: plain facts on square roots, rounded down. No condition.
-/
import Derived.Test.YtmcnpiajnehnlaaDoorMath2
namespace Go.Proofs.YtmcnpiajnehnlaaDoor

/-- r is the root of a, rounded down. -/
def IsRoot (r a : Nat) : Prop := r * r ≤ a ∧ a < (r + 1) * (r + 1)
theorem sq_le {a b : Nat} (h : a ≤ b) : a * a ≤ b * b := Nat.mul_le_mul h h
theorem sq_lt {a b : Nat} (h : a * a < b * b) : a < b := by
  rcases Nat.lt_or_ge a b with h1 | h1
  · exact h1
  · have := sq_le h1; omega
theorem IsRoot.unique {r s a : Nat} (h : IsRoot r a) (g : IsRoot s a) : r = s := by
  have h1 : r < s + 1 := sq_lt (Nat.lt_of_le_of_lt h.1 g.2)
  have h2 : s < r + 1 := sq_lt (Nat.lt_of_le_of_lt g.1 h.2)
  omega
theorem sq_sub {s r : Nat} (h : r ≤ 2 * s) : (2 * s - r) * r ≤ s * s := by
  rcases Nat.lt_or_ge r s with h1 | h1
  · obtain ⟨d, rfl⟩ : ∃ d, s = r + d := ⟨s - r, by omega⟩
    rw [show 2 * (r + d) - r = r + (d + d) by omega, Nat.add_mul, Nat.add_mul, Nat.mul_add (r + d), Nat.add_mul, Nat.add_mul, Nat.mul_comm d r]
    omega
  · obtain ⟨d, rfl⟩ : ∃ d, r = s + d := ⟨r - s, by omega⟩
    obtain ⟨e, rfl⟩ : ∃ e, s = e + d := ⟨s - d, by omega⟩
    rw [show 2 * (e + d) - (e + d + d) = e by omega]
    rw [Nat.mul_add, Nat.mul_add, Nat.mul_add (e + d), Nat.add_mul, Nat.add_mul, Nat.mul_comm d e]
    omega
/-- Newton's step stays above. -/
theorem newton_ge {a r s : Nat} (hr : 0 < r) (hs : s * s ≤ a) : s ≤ (r + a / r) / 2 := by
  have h1 := Nat.lt_mul_div_succ a hr
  generalize a / r = q at *
  rcases Nat.lt_or_ge (r + q) (2 * s) with h | h
  · have h2 : r * (q + 1) ≤ r * (2 * s - r) := Nat.mul_le_mul_left _ (by omega)
    have h3 := sq_sub (s := s) (r := r) (by omega)
    rw [Nat.mul_comm r (2 * s - r)] at h2
    omega
  · omega
theorem newton_next {a r : Nat} (hr : 0 < r) : a < ((r + a / r) / 2 + 1) * ((r + a / r) / 2 + 1) := by
  rcases Nat.lt_or_ge a (((r + a / r) / 2 + 1) * ((r + a / r) / 2 + 1)) with h | h
  · exact h
  · have := newton_ge hr h
    omega
theorem newton_pos {a r : Nat} (hr : 0 < r) (ha : a ≠ 0) : 0 < (r + a / r) / 2 := newton_ge (s := 1) hr (by omega)
theorem newton_stop {a r : Nat} (hr : 0 < r) (h : r ≤ (r + a / r) / 2) : r * r ≤ a := by
  have h1 : r ≤ a / r := by omega
  exact (Nat.le_div_iff_mul_le hr).1 h1
/-- A start above the root, by the root of the higher half. -/
theorem above_half {a s k : Nat} (h : a / 2 ^ (2 * k) < (s + 1) * (s + 1)) : a < ((s + 1) * 2 ^ k + 1) * ((s + 1) * 2 ^ k + 1) := by
  have h1 : a < (s + 1) * (s + 1) * 2 ^ (2 * k) := (Nat.div_lt_iff_lt_mul (Nat.two_pow_pos _)).1 h
  have h2 : (s + 1) * (s + 1) * 2 ^ (2 * k) = ((s + 1) * 2 ^ k) * ((s + 1) * 2 ^ k) := by
    rw [Nat.two_mul, Nat.pow_add, Nat.mul_mul_mul_comm]
  rw [h2] at h1
  exact Nat.lt_of_lt_of_le h1 (sq_le (Nat.le_succ _))
theorem above_low {a n : Nat} (h : a < 2 ^ n) : a < (2 ^ ((n + 1) / 2) + 1) * (2 ^ ((n + 1) / 2) + 1) := by
  have h1 : 2 ^ n ≤ 2 ^ ((n + 1) / 2) * 2 ^ ((n + 1) / 2) := by
    rw [← Nat.pow_add]; exact Nat.pow_le_pow_right (by decide) (by omega)
  exact Nat.lt_of_lt_of_le h (Nat.le_trans h1 (sq_le (Nat.le_succ _)))
/-- The root bit by bit. -/
theorem bit_start {a n : Nat} (h : a < 2 ^ n) : a < (0 + 2 ^ ((n + 1) / 2 + 1)) * (0 + 2 ^ ((n + 1) / 2 + 1)) := by
  rw [Nat.zero_add, ← Nat.pow_add]
  exact Nat.lt_of_lt_of_le h (Nat.pow_le_pow_right (by decide) (by omega))
theorem bit_off {a r i : Nat} (h : ¬ (r + 2 ^ i) * (r + 2 ^ i) ≤ a) : a < (r + 2 ^ i) * (r + 2 ^ i) := by omega
theorem bit_on {a r i : Nat} (h : a < (r + 2 ^ (i + 1)) * (r + 2 ^ (i + 1))) : a < (r + 2 ^ i + 2 ^ i) * (r + 2 ^ i + 2 ^ i) := by
  rw [Nat.add_assoc, ← Nat.two_mul, Nat.mul_comm 2, ← Nat.pow_succ]; exact h
theorem root_le {r a : Nat} (h : r * r ≤ a) : r ≤ a := by
  rcases Nat.eq_zero_or_pos r with h0 | h0
  · omega
  · have := Nat.le_mul_of_pos_left r h0; omega
end Go.Proofs.YtmcnpiajnehnlaaDoor
