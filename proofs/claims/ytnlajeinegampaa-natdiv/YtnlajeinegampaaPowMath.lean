/-
  Proved here: plain facts on how many bits powers have. No condition.
-/
import Derived.Test.YtnlajeinegampaaBitsAll
namespace Go.Proofs.Ytnlajeinegampaa

theorem bl_le_iff {v m : Nat} : bl v ≤ m ↔ v < 2 ^ m := by
  by_cases h : v = 0
  · subst h; simp [bl_zero, Nat.two_pow_pos]
  · obtain ⟨k, e, h1, h2⟩ := bl_bounds h
    rw [e]
    constructor
    · intro hm
      exact Nat.lt_of_lt_of_le h2 (Nat.pow_le_pow_right (by decide) hm)
    · intro hm
      have := (Nat.pow_lt_pow_iff_right (by decide : 1 < 2)).1 (Nat.lt_of_le_of_lt h1 hm)
      omega
theorem bl_lt' (v : Nat) : v < 2 ^ bl v := bl_le_iff.1 (Nat.le_refl _)
theorem bl_gt_iff {v m : Nat} : m < bl v ↔ 2 ^ m ≤ v := by
  constructor
  · intro h
    rcases Nat.lt_or_ge v (2 ^ m) with h1 | h1
    · have := bl_le_iff.2 h1; omega
    · exact h1
  · intro h
    rcases Nat.lt_or_ge m (bl v) with h1 | h1
    · exact h1
    · have := bl_le_iff.1 h1; omega
theorem bl_mono {a b : Nat} (h : a ≤ b) : bl a ≤ bl b := bl_le_iff.2 (Nat.lt_of_le_of_lt h (bl_le_iff.1 (Nat.le_refl _)))
/-- A number of b bits to the n-th has more than (b - 1) n bits. -/
theorem pow_big_of {v n M : Nat} (h : M ≤ (bl v - 1) * n) (hv : v ≠ 0) : M < bl (v ^ n) := by
  obtain ⟨k, e, h1, h2⟩ := bl_bounds hv
  rw [e, Nat.add_sub_cancel] at h
  refine bl_gt_iff.2 ?_
  refine Nat.le_trans (Nat.pow_le_pow_right (by decide) h) ?_
  rw [Nat.pow_mul]
  exact Nat.pow_le_pow_left h1 n
theorem pow_len {v n e M : Nat} (h : (bl v - 1) * n < 262144) (hn : n ≤ 1024) (he : e ≤ n) (hM : 263168 ≤ 32 * M) : (lim (v ^ e)).length ≤ M := by
  refine lim_len_le ?_
  rw [pow_limb M]
  by_cases hv : v = 0
  · subst hv
    by_cases h0 : e = 0
    · subst h0; rw [Nat.pow_zero]; exact Nat.one_lt_two_pow (by omega)
    · rw [Nat.zero_pow (by omega)]; exact Nat.two_pow_pos _
  · obtain ⟨k, ek, h1, h3⟩ := bl_bounds hv
    rw [ek, Nat.add_sub_cancel] at h
    have h4 : v ^ e ≤ (2 ^ (k + 1)) ^ e := Nat.pow_le_pow_left (Nat.le_of_lt h3) e
    rw [← Nat.pow_mul] at h4
    refine Nat.lt_of_le_of_lt h4 (Nat.pow_lt_pow_right (by decide) ?_)
    have h5 : (k + 1) * e ≤ (k + 1) * n := Nat.mul_le_mul_left _ he
    rw [Nat.add_mul k 1 n, Nat.one_mul] at h5
    omega
theorem pow_half {v e n i : Nat} (he : e = n / 2 ^ (i + 1)) : v ^ (n / 2 ^ i) = v ^ e * v ^ e * v ^ (n / 2 ^ i % 2) := by
  rw [← Nat.pow_add, ← Nat.pow_add]
  congr 1
  rw [he, Nat.pow_succ, ← Nat.div_div_eq_div_mul]
  omega
theorem prod_len {a b k m : Nat} (ha : (lim a).length ≤ k) (hb : (lim b).length ≤ m) : (lim (a * b)).length ≤ k + m := by
  refine lim_len_le ?_
  rw [Nat.pow_add]
  exact Nat.mul_lt_mul'' (lim_lt_of_len ha) (lim_lt_of_len hb)
theorem bl_len {xs : List Nat} (h : limbs xs) : bl (val xs) ≤ 32 * xs.length := by
  rw [bl_le_iff, ← pow_limb]
  exact val_lt h
theorem bl_lim_len {p : Nat} : bl p ≤ 32 * (lim p).length := by
  have := bl_len (limbs_lim p)
  rwa [val_lim] at this
theorem and1_i64 (D : Nat) (h : D < 4294967296) : bits BinOp.and IntKind.i64 (D : Int) 1 = ((D % 2 : Nat) : Int) := by
  have h1 : (BitVec.ofInt 64 (D : Int)).toNat = D := by
    rw [BitVec.ofInt_natCast, BitVec.toNat_ofNat]; exact Nat.mod_eq_of_lt (by omega)
  show IntKind.i64.wrap ((BitVec.ofInt 64 (D : Int) &&& BitVec.ofInt 64 1).toNat : Int) = _
  rw [BitVec.toNat_and, h1, show (BitVec.ofInt 64 1).toNat = 1 from rfl, Nat.and_one_is_mod, IntKind.wrap_i64]
  omega
theorem len_of_bl {a k : Nat} (h : bl a ≤ 32 * k) : (lim a).length ≤ k := by
  refine lim_len_le ?_
  rw [pow_limb]
  exact bl_le_iff.1 h
end Go.Proofs.Ytnlajeinegampaa
