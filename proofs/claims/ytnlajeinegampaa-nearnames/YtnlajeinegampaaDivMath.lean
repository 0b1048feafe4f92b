/-
  Proved here: plain facts on a quotient's limb that is guessed out of the highest limbs. No condition.
-/
import Derived.Test.YtnlajeinegampaaShiftMath
namespace Go.Proofs.Ytnlajeinegampaa

/-- Whatever the guess is above the quotient of the highest limbs, the true one is not above that. -/
theorem guess_low {part b D N P q : Nat} (hb : D * P ≤ b) (hp : part < (N + 1) * P) (h : q * b ≤ part) : q * D ≤ N := by
  have h1 : q * (D * P) ≤ q * b := Nat.mul_le_mul_left _ hb
  rw [← Nat.mul_assoc] at h1
  have h2 : q * D * P < (N + 1) * P := Nat.lt_of_le_of_lt (Nat.le_trans h1 h) hp
  have := Nat.lt_of_mul_lt_mul_right h2
  omega
theorem guess_high {part b D N P q : Nat} (hb : b < (D + 1) * P) (hp : N * P ≤ part) (h : q * D ≤ N) (hq : q ≤ D + 1) : (q - 1) * b ≤ part := by
  rcases Nat.eq_zero_or_pos q with h0 | h0
  · subst h0; simp
  · obtain ⟨k, rfl⟩ : ∃ k, q = k + 1 := ⟨q - 1, by omega⟩
    rw [Nat.add_sub_cancel]
    have h1 : k * b ≤ k * ((D + 1) * P) := Nat.mul_le_mul_left _ (Nat.le_of_lt hb)
    have h2 : k * (D + 1) ≤ N := by
      rw [Nat.mul_add, Nat.mul_one]
      rw [Nat.add_mul, Nat.one_mul] at h
      omega
    rw [← Nat.mul_assoc] at h1
    exact Nat.le_trans h1 (Nat.le_trans (Nat.mul_le_mul_right _ h2) hp)
theorem out_lit (P x : Nat) : P * 4294967296 * x = 4294967296 * (P * x) := by rw [Nat.mul_right_comm, Nat.mul_comm]
theorem out_lit2 (P x : Nat) : x * 4294967296 * P = 4294967296 * (P * x) := by rw [Nat.mul_right_comm, Nat.mul_comm, Nat.mul_comm x P]
/-- The highest limbs of a number. -/
theorem top_two {b : List Nat} {n : Nat} (hb : limbs b) (hl : b.length = n + 2) : (b.getD (n + 1) 0 * 4294967296 + b.getD n 0) * 4294967296 ^ n ≤ val b ∧ val b < (b.getD (n + 1) 0 * 4294967296 + b.getD n 0 + 1) * 4294967296 ^ n := by
  have e1 := low_succ b n
  have e2 := low_succ b (n + 1)
  rw [low_all (by omega), e1, Nat.pow_succ, out_lit] at e2
  have h := low_lt hb n
  generalize 4294967296 ^ n = P at *
  generalize b.getD (n + 1) 0 = x at *
  generalize b.getD n 0 = y at *
  rw [Nat.add_mul (x * 4294967296 + y) 1 P, Nat.one_mul, Nat.add_mul, out_lit2, Nat.mul_comm y P]
  omega
theorem top_three {p : List Nat} {n : Nat} (hp : limbs p) (hl : p.length = n + 3) : ((p.getD (n + 2) 0 * 4294967296 + p.getD (n + 1) 0) * 4294967296 + p.getD n 0) * 4294967296 ^ n ≤ val p ∧ val p < ((p.getD (n + 2) 0 * 4294967296 + p.getD (n + 1) 0) * 4294967296 + p.getD n 0 + 1) * 4294967296 ^ n := by
  have e1 := low_succ p n
  have e2 := low_succ p (n + 1)
  have e3 := low_succ p (n + 2)
  have hp1 : 4294967296 ^ (n + 1) = 4294967296 ^ n * 4294967296 := Nat.pow_succ ..
  have hp2 : 4294967296 ^ (n + 2) = 4294967296 ^ n * 4294967296 * 4294967296 := by rw [Nat.pow_succ, Nat.pow_succ]
  rw [show n + 2 + 1 = n + 3 from rfl, low_all (by omega), show n + 2 = n + 1 + 1 from rfl, e2, e1, show n + 1 + 1 = n + 2 from rfl, hp1, hp2, out_lit, out_lit (4294967296 ^ n * 4294967296), out_lit] at e3
  have h := low_lt hp n
  generalize 4294967296 ^ n = P at *
  generalize p.getD (n + 2) 0 = x at *
  generalize p.getD (n + 1) 0 = y at *
  generalize p.getD n 0 = z at *
  rw [Nat.add_mul ((x * 4294967296 + y) * 4294967296 + z) 1 P, Nat.one_mul, Nat.add_mul, out_lit2, Nat.mul_comm z P, Nat.mul_add P, Nat.mul_comm P (x * 4294967296), out_lit2]
  omega
/-- What the multiple carries on. -/
theorem carry_step {b : List Nat} {q i m : Nat} (h : m = low b i * q / 4294967296 ^ i) : (m + b.getD i 0 * q) / 4294967296 = low b (i + 1) * q / 4294967296 ^ (i + 1) := by
  rw [low_succ, Nat.add_mul, Nat.pow_succ, ← Nat.div_div_eq_div_mul, Nat.mul_assoc, Nat.add_mul_div_left _ _ (Nat.pow_pos (by decide)), ← h]
theorem carry_lt {b : List Nat} (hb : limbs b) {q : Nat} (hq : q < 4294967296) (i : Nat) : low b i * q / 4294967296 ^ i < 4294967296 := by
  apply Nat.div_lt_of_lt_mul
  exact Nat.mul_lt_mul'' (low_lt hb i) hq
theorem carry_end {b : List Nat} (hb : limbs b) {q : Nat} (hq : q < 4294967296) : low b (b.length + 1) * q / 4294967296 ^ (b.length + 1) = 0 := by
  rw [low_all (by omega)]
  apply Nat.div_eq_of_lt
  rw [Nat.pow_succ]
  exact Nat.mul_lt_mul'' (val_lt hb) hq
end Go.Proofs.Ytnlajeinegampaa
