/-
  Proved here: plain facts on a division limb by limb. No condition.
-/
import Derived.Test.YtnlajeinegampaaDivMath
import Derived.Test.YtnlajeinegampaaBits
namespace Go.Proofs.Ytnlajeinegampaa

/-- A limb of a quotient is taken off: what is left of the higher limbs, and of all. -/
theorem long_val {zs zs' : List Nat} {i : Nat} (hi : i ≤ zs.length) (hl : zs'.length = zs.length) (hlo : ∀ j, j < i → zs'.getD j 0 = zs.getD j 0) : val zs' + 4294967296 ^ i * val (zs.drop i) = val zs + 4294967296 ^ i * val (zs'.drop i) := by
  have e1 := val_split zs i hi
  have e2 := val_split zs' i (by omega)
  rw [low_congr hlo] at e2
  omega
/-- The higher limbs of a number that is small are noughts. -/
theorem low_small {xs : List Nat} (hx : limbs xs) {n : Nat} (h : val xs < 4294967296 ^ n) : low xs n = val xs := by
  have h1 := low_lt hx n
  rcases Nat.lt_or_ge n xs.length with hn | hn
  · have e := val_split xs n (by omega)
    rcases Nat.eq_zero_or_pos (val (xs.drop n)) with h0 | h0
    · rw [h0, Nat.mul_zero, Nat.add_zero] at e; exact e.symm
    · have := Nat.mul_le_mul_left (4294967296 ^ n) h0
      omega
  · exact low_all hn
/-- The limbs behind a segment are as they were, noughts: so the segment is all. -/
theorem seg_high {zs zs' : List Nat} {j m : Nat} (hz : limbs zs) (hj : j + m ≤ zs.length) (hl : zs'.length = zs.length) (hs : ∀ k, k < j ∨ j + m ≤ k → zs'.getD k 0 = zs.getD k 0) (h : val (zs.drop j) < 4294967296 ^ m) : val (zs'.drop j) = low (zs'.drop j) m := by
  have e1 := val_split (zs.drop j) m (by simp; omega)
  have e2 := val_split (zs'.drop j) m (by simp; omega)
  rw [low_small (limbs_drop hz j) h] at e1
  have h0 : val ((zs.drop j).drop m) = 0 := by
    rcases Nat.eq_zero_or_pos (val ((zs.drop j).drop m)) with h1 | h1
    · exact h1
    · have := Nat.mul_pos (Nat.pow_pos (n := m) (show 0 < 4294967296 by decide)) h1
      omega
  have h1 : val ((zs'.drop j).drop m) = val ((zs.drop j).drop m) := val_congr zs.length (by simp only [List.length_drop]; omega) (by simp only [List.length_drop]; omega) fun k => by
    rw [getD_drop, getD_drop, getD_drop, getD_drop]
    exact hs _ (Or.inr (by omega))
  rw [h1, h0, Nat.mul_zero, Nat.add_zero] at e2
  exact e2
/-- The guess was right. -/
theorem take_right {r r' b q M : Nat} (h : r' + b * q = r + M * 0) (hq : r < (q + 1) * b) : r' < b ∧ r' + q * b = r := by
  rw [Nat.mul_zero, Nat.add_zero, Nat.mul_comm b q] at h
  rw [Nat.add_mul, Nat.one_mul] at hq
  omega
/-- The guess was one too great. -/
theorem take_back {r r' r2 b q M c : Nat} (h : r' + b * q = r + M * 1) (hr' : r' < M) (h2 : r2 + M * c = r' + b) (hr2 : r2 < M) (hq : (q - 1) * b ≤ r) (hbM : b < M) : 1 ≤ q ∧ r2 < b ∧ r2 + (q - 1) * b = r := by
  have hq1 : 1 ≤ q := by
    rcases Nat.eq_zero_or_pos q with h0 | h0
    · subst h0; rw [Nat.mul_zero] at h; omega
    · exact h0
  obtain ⟨k, rfl⟩ : ∃ k, q = k + 1 := ⟨q - 1, by omega⟩
  rw [Nat.add_sub_cancel] at hq ⊢
  rw [Nat.mul_add, Nat.mul_one, Nat.mul_comm b k, Nat.mul_one] at h
  have hc : c = 1 := by
    rcases Nat.lt_or_ge c 1 with h3 | h3
    · have : c = 0 := by omega
      subst this
      rw [Nat.mul_zero, Nat.add_zero] at h2
      omega
    · rcases Nat.lt_or_ge 1 c with h4 | h4
      · have := Nat.mul_le_mul_left M h4
        omega
      · omega
  subst hc
  rw [Nat.mul_one] at h2
  omega
/-- One limb of the quotient more. -/
theorem long_quo {qs : List Nat} {i q : Nat} (hi : i < qs.length) : val ((qs.set i q).drop i) = q + 4294967296 * val (qs.drop (i + 1)) := by
  rw [val_tail ((qs.set i q).drop i), getD_drop, Nat.add_zero, getD_set_eq _ _ _ hi, List.tail_drop]
  congr 3
  exact List.drop_set_of_lt (by omega)
theorem long_inv {A P b r r' s s' q h : Nat} (h1 : A = h * (P * 4294967296) * b + s) (h2 : s' + P * r = s + P * r') (h3 : r' + q * b = r) : A = (q + 4294967296 * h) * P * b + s' := by
  have e1 : P * r = P * r' + P * (q * b) := by rw [← h3, Nat.mul_add]
  have e2 : (q + 4294967296 * h) * P * b = P * (q * b) + h * (P * 4294967296) * b := by
    rw [Nat.add_mul, Nat.add_mul]
    congr 1
    · rw [Nat.mul_comm q P, Nat.mul_assoc]
    · rw [Nat.mul_comm 4294967296 h, Nat.mul_assoc h, Nat.mul_comm 4294967296 P]
  omega
/-- Quotient and rest, in one way alone. -/
theorem long_end {A b q s : Nat} (h : A = q * b + s) (hs : s < b) : q = A / b ∧ s = A % b := by
  have hb : 0 < b := by omega
  constructor
  · rw [h, Nat.add_comm, Nat.add_mul_div_right _ _ hb, Nat.div_eq_of_lt hs, Nat.zero_add]
  · rw [h, Nat.add_comm, Nat.add_mul_mod_self_right, Nat.mod_eq_of_lt hs]
end Go.Proofs.Ytnlajeinegampaa
