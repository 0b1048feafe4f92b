/-
  Proved here: plain mathematics for the plain way's division (bit by bit) and common divisor (halves and differences).
-/
import Derived.Test.YtnlajeinegampaaShiftMath
namespace Go.Proofs.Ytnlajeinegampaa

theorem bit_split (A j : Nat) : A / 2 ^ j = 2 * (A / 2 ^ (j + 1)) + A / 2 ^ j % 2 := by
  rw [Nat.pow_succ, ← Nat.div_div_eq_div_mul]
  omega

theorem div_two_yes {X Y t R : Nat} (hR : 2 * (X % Y) + t = R) (ht : t ≤ 1) (hle : Y ≤ R) (hY : 0 < Y) :
    (2 * X + t) / Y = 2 * (X / Y) + 1 ∧ (2 * X + t) % Y = R - Y := by
  have h1 := Nat.div_add_mod X Y
  have h2 := Nat.mod_lt X hY
  have e : 2 * X + t = (R - Y) + Y * (2 * (X / Y) + 1) := by
    rw [Nat.mul_add, Nat.mul_left_comm Y 2]
    generalize Y * (X / Y) = Q at *
    omega
  have hlt : R - Y < Y := by omega
  rw [e]
  exact ⟨by rw [Nat.add_mul_div_left _ _ hY, Nat.div_eq_of_lt hlt]; omega, by rw [Nat.add_mul_mod_self_left, Nat.mod_eq_of_lt hlt]⟩

theorem div_two_no {X Y t R : Nat} (hR : 2 * (X % Y) + t = R) (hlt : R < Y) (hY : 0 < Y) :
    (2 * X + t) / Y = 2 * (X / Y) ∧ (2 * X + t) % Y = R := by
  have h1 := Nat.div_add_mod X Y
  have e : 2 * X + t = R + Y * (2 * (X / Y)) := by
    rw [Nat.mul_left_comm Y 2]
    generalize Y * (X / Y) = Q at *
    omega
  rw [e]
  exact ⟨by rw [Nat.add_mul_div_left _ _ hY, Nat.div_eq_of_lt hlt]; omega, by rw [Nat.add_mul_mod_self_left, Nat.mod_eq_of_lt hlt]⟩

/-- A limb of a number of which no bit below i + 1 is set has room for bit i. -/
theorem limb_room {zs : List Nat} (hz : limbs zs) {K j q r : Nat} (h : val zs = K * 2 ^ (j + 1)) (hp : 2 ^ j = 4294967296 ^ q * 2 ^ r) (hr : r ≤ 31) : zs.getD q 0 + 2 ^ r < 4294967296 := by
  have hd := limb_digit hz q
  have h1 : val zs / 4294967296 ^ q = K * 2 ^ (r + 1) := by
    rw [h, Nat.pow_succ, hp, Nat.mul_comm K, Nat.mul_assoc, Nat.mul_assoc, Nat.mul_div_cancel_left _ (Nat.pow_pos (by decide)), Nat.pow_succ, ← Nat.mul_assoc, Nat.mul_comm]
  have h2 : (4294967296 : Nat) = 2 ^ (r + 1) * 2 ^ (31 - r) := by rw [← Nat.pow_add, show r + 1 + (31 - r) = 32 by omega]
  rw [h1] at hd
  have h3 : K * 2 ^ (r + 1) % 4294967296 = 2 ^ (r + 1) * (K % 2 ^ (31 - r)) := by
    rw [h2, Nat.mul_comm K, Nat.mul_mod_mul_left]
  rw [h3] at hd
  have h4 : K % 2 ^ (31 - r) + 1 ≤ 2 ^ (31 - r) := Nat.mod_lt _ (Nat.two_pow_pos _)
  have h5 : 2 ^ (r + 1) * (K % 2 ^ (31 - r) + 1) ≤ 4294967296 := by
    calc 2 ^ (r + 1) * (K % 2 ^ (31 - r) + 1) ≤ 2 ^ (r + 1) * 2 ^ (31 - r) := Nat.mul_le_mul_left _ h4
      _ = 4294967296 := h2.symm
  rw [Nat.mul_add, Nat.mul_one, ← hd, Nat.pow_succ] at h5
  have := Nat.two_pow_pos r
  omega

theorem pull_bit {zs : List Nat} {K j q r : Nat} (hq : q < zs.length) (h : val zs = K * 2 ^ (j + 1)) (hp : 2 ^ j = 4294967296 ^ q * 2 ^ r) : val (zs.set q (zs.getD q 0 + 2 ^ r)) = (2 * K + 1) * 2 ^ j := by
  rw [val_set_add _ _ _ hq, h, ← hp, Nat.add_mul, Nat.one_mul, Nat.pow_succ, Nat.mul_comm 2 K, Nat.mul_assoc, Nat.mul_comm 2]

theorem gcd_half_left {x y G : Nat} (h : Nat.gcd x y = G) (hG : G % 2 = 1) (hx : x % 2 = 0) : Nat.gcd (x / 2) y = G := by
  obtain ⟨k, rfl⟩ : ∃ k, x = 2 * k := ⟨x / 2, by omega⟩
  rw [Nat.mul_div_cancel_left _ (by decide)]
  have hc : Nat.Coprime G 2 := by
    have : Nat.gcd G 2 = Nat.gcd 2 G := Nat.gcd_comm _ _
    unfold Nat.Coprime
    rw [this, Nat.gcd_rec, hG]; rfl
  apply Nat.dvd_antisymm
  · rw [← h]
    exact Nat.dvd_gcd (Nat.dvd_trans (Nat.gcd_dvd_left k y) (Nat.dvd_mul_left _ _)) (Nat.gcd_dvd_right k y)
  · refine Nat.dvd_gcd (hc.dvd_of_dvd_mul_left ?_) ?_
    · rw [← h]; exact Nat.gcd_dvd_left _ _
    · rw [← h]; exact Nat.gcd_dvd_right _ _

theorem gcd_half_right {x y G : Nat} (h : Nat.gcd x y = G) (hG : G % 2 = 1) (hy : y % 2 = 0) : Nat.gcd x (y / 2) = G := by
  rw [Nat.gcd_comm] at h ⊢
  exact gcd_half_left h hG hy

theorem gcd_halves {x y : Nat} (hx : x % 2 = 0) (hy : y % 2 = 0) : Nat.gcd x y = 2 * Nat.gcd (x / 2) (y / 2) := by
  obtain ⟨k, rfl⟩ : ∃ k, x = 2 * k := ⟨x / 2, by omega⟩
  obtain ⟨l, rfl⟩ : ∃ k, y = 2 * k := ⟨y / 2, by omega⟩
  rw [Nat.mul_div_cancel_left _ (by decide), Nat.mul_div_cancel_left _ (by decide), Nat.gcd_mul_left]

theorem gcd_odd {x y : Nat} (h : ¬ (x % 2 = 0 ∧ y % 2 = 0)) : Nat.gcd x y % 2 = 1 := by
  rcases Nat.mod_two_eq_zero_or_one (Nat.gcd x y) with h0 | h0
  · exfalso
    apply h
    have hd : 2 ∣ Nat.gcd x y := Nat.dvd_of_mod_eq_zero h0
    exact ⟨Nat.mod_eq_zero_of_dvd (Nat.dvd_trans hd (Nat.gcd_dvd_left x y)), Nat.mod_eq_zero_of_dvd (Nat.dvd_trans hd (Nat.gcd_dvd_right x y))⟩
  · exact h0

theorem gcd_less {x y : Nat} (h : x ≤ y) : Nat.gcd x (y - x) = Nat.gcd x y := Nat.gcd_sub_self_right h
end Go.Proofs.Ytnlajeinegampaa
