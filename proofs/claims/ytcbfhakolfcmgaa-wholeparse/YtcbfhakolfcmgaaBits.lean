/-
  Proved here: how many bits a number has, by either way.
-/
import Derived.Test.YtcbfhakolfcmgaaCmp
import Derived.Lib.BitFns
namespace Go.Proofs.Ytcbfhakolfcmgaa
open Go.RowKit

/-- How many bits a number has. -/
def bl (n : Nat) : Nat := if n = 0 then 0 else n.log2 + 1
theorem bl_zero : bl 0 = 0 := rfl
theorem bl_unique {n m : Nat} (h1 : 2 ^ m ≤ n) (h2 : n < 2 ^ (m + 1)) : bl n = m + 1 := by
  have h0 : n ≠ 0 := by have := Nat.two_pow_pos m; omega
  have a := (Nat.le_log2 h0).2 h1
  have b := (Nat.log2_lt h0).2 h2
  unfold bl
  rw [if_neg h0]
  omega
theorem bl_bounds {n : Nat} (h : n ≠ 0) : ∃ m, bl n = m + 1 ∧ 2 ^ m ≤ n ∧ n < 2 ^ (m + 1) :=
  ⟨n.log2, by unfold bl; rw [if_neg h], (Nat.le_log2 h).1 (Nat.le_refl _), (Nat.log2_lt h).1 (Nat.lt_succ_self _)⟩
theorem bl_half {t : Nat} (h : t ≠ 0) : bl t = 1 + bl (t / 2) := by
  by_cases h1 : t = 1
  · subst h1; decide
  · obtain ⟨m, e, h2, h3⟩ := bl_bounds (n := t / 2) (by omega)
    rw [e, bl_unique (m := m + 1)]
    · omega
    · rw [Nat.pow_succ]; omega
    · rw [Nat.pow_succ]; omega
theorem pow_limb (k : Nat) : 4294967296 ^ k = 2 ^ (32 * k) := by rw [Nat.pow_mul]
theorem bl_top {r k t : Nat} (hr : r < 4294967296 ^ k) (ht : t ≠ 0) : bl (r + 4294967296 ^ k * t) = 32 * k + bl t := by
  obtain ⟨m, e, h2, h3⟩ := bl_bounds ht
  rw [e]
  refine bl_unique (m := 32 * k + m) ?_ ?_
  · rw [Nat.pow_add, ← pow_limb]
    have := Nat.mul_le_mul_left (4294967296 ^ k) h2
    omega
  · rw [show 32 * k + m + 1 = 32 * k + (m + 1) by omega, Nat.pow_add, ← pow_limb]
    have h4 : t + 1 ≤ 2 ^ (m + 1) := h3
    have := Nat.mul_le_mul_left (4294967296 ^ k) h4
    rw [Nat.mul_add, Nat.mul_one] at this
    omega
theorem bl_bitLen : ∀ (x : Nat), x < 18446744073709551616 → Lib.bitLen x = bl x := by
  intro x
  induction x using Nat.strongRecOn with
  | ind x ih =>
    intro hx
    by_cases h0 : x = 0
    · subst h0; rfl
    · rw [Lib.bitLen_half x h0 hx, ih (x / 2) (by omega) (by omega), bl_half h0]
theorem bl_le32 {x : Nat} (h : x < 4294967296) : bl x ≤ 32 := by
  rw [← bl_bitLen x (by omega)]
  exact Lib.bitLen_le x 32 (by omega) h
theorem lim_last {n : Nat} (h : n ≠ 0) : ∃ k t, (lim n).length = k + 1 ∧ (lim n).getD k 0 = t ∧ t ≠ 0 ∧ t < 4294967296 ∧ bl n = 32 * k + bl t := by
  have hne : lim n ≠ [] := by rw [lim_pos h]; simp
  obtain ⟨k, hk⟩ : ∃ k, (lim n).length = k + 1 := ⟨(lim n).length - 1, by have := List.length_pos_iff.2 hne; omega⟩
  have hs := low_succ (lim n) k
  rw [low_all (by omega), val_lim] at hs
  have hlo := low_lt (limbs_lim n) k
  have ht : (lim n).getD k 0 ≠ 0 := by
    intro h0
    rw [h0, Nat.mul_zero, Nat.add_zero] at hs
    have := lim_len_le (k := k) (n := n) (by omega)
    omega
  refine ⟨k, _, hk, rfl, ht, limb_lt (limbs_lim n) k, ?_⟩
  conv => lhs; rw [hs]
  exact bl_top hlo ht

end Go.Proofs.Ytcbfhakolfcmgaa
