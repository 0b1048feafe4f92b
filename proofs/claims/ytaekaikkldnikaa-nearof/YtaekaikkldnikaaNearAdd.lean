/-
  Proved here: a finite float that is not below 0, and 0, make that float again; plain mathematics.
-/
import Derived.Test.YtaekaikkldnikaaNearBackM
namespace Go.Proofs.Ytaekaikkldnikaa
open Ieee

theorem log2_units {u k : Nat} (h1 : 2 ^ 52 ≤ u) (h2 : u < 2 ^ 53) : (u * 2 ^ k).log2 = 52 + k := by
  have hp := Nat.two_pow_pos k
  refine (Nat.log2_eq_iff (Nat.ne_of_gt (Nat.mul_pos (by omega) hp))).2 ⟨?_, ?_⟩
  · rw [Nat.pow_add]; exact Nat.mul_le_mul_right _ h1
  · rw [show 52 + k + 1 = 53 + k by omega, Nat.pow_add]; exact Nat.mul_lt_mul_of_pos_right h2 hp
theorem cut_exact (neg : Bool) {u k : Nat} (hk : k ≤ (u * 2 ^ k).log2 + 2) : Toward.even.cut neg (u * 2 ^ k) k = u := by
  have hp := Nat.two_pow_pos k
  unfold Toward.cut
  rw [Nat.min_eq_left hk, Nat.shiftLeft_eq, Nat.one_mul]
  dsimp only
  rw [Nat.mul_div_cancel _ hp, Nat.mul_mod_left, Nat.mul_zero, decide_eq_false (by omega)]
  have h : (2 ^ k == 0) = false := by rw [beq_eq_false_iff_ne]; omega
  rw [h]
  rfl
theorem nearest_exact {u k : Nat} (h1 : u < 2 ^ 53) (h2 : k = 0 ∨ 2 ^ 52 ≤ u) (hk : k ≤ 2045) : double.nearest false (u * 2 ^ k) (-1074) = u + k * 2 ^ 52 := by
  unfold Format.nearest
  rw [dlp, dbin, dinf]
  by_cases h0 : u * 2 ^ k = 0
  · rw [if_pos h0]
    have hp := Nat.two_pow_pos k
    have hu : u = 0 := by
      rcases Nat.mul_eq_zero.1 h0 with h | h
      · exact h
      · omega
    have : k = 0 := by omega
    rw [hu, this]
    rfl
  · rw [if_neg h0]
    have hl : (max (-1074 + ((u * 2 ^ k).log2 : Int) - (double.fractionBits : Int)) (-1074)) = -1074 + (k : Int) := by
      have hf : (double.fractionBits : Int) = 52 := by decide
      rw [hf]
      rcases Nat.lt_or_ge u (2 ^ 52) with h3 | h3
      · have hk0 : k = 0 := by omega
        subst hk0
        rw [Nat.pow_zero, Nat.mul_one]
        have : u.log2 < 52 := by
          rw [Nat.pow_zero, Nat.mul_one] at h0
          exact (Nat.log2_lt h0).2 h3
        omega
      · rw [log2_units h3 h1]
        omega
    dsimp only
    rw [hl, show (-1074 - (-1074 + (k : Int))).toNat = 0 by omega, show (-1074 + (k : Int) - -1074).toNat = k by omega, Nat.shiftLeft_zero, cut_exact]
    · unfold Format.word
      rw [if_neg (by simp), Nat.min_eq_left (by omega)]
      omega
    · rcases Nat.lt_or_ge u (2 ^ 52) with h3 | h3
      · omega
      · rw [log2_units h3 h1]; omega
theorem add_nought {r : Nat} (h : r < 9218868437227405312) : double.add r 0 = some r := by
  obtain ⟨m, e, h1, h2, h3⟩ := dread_fval false h
  have h1 : double.read r = .number false m e := h1
  have h0 : double.read 0 = .number false 0 (-1074) := by decide
  obtain ⟨u, k, hr, p1, p2, p3⟩ := parts_of h
  have hv : fval 52 r = u * 2 ^ k := by rw [hr]; exact fval_units (by omega) p2
  have e1 : signed false m (e - min e (-1074)).toNat + signed false 0 (-1074 - min e (-1074)).toNat = ((u * 2 ^ k : Nat) : Int) := by
    rw [Int.min_eq_right h2, signed_val, signed_val, if_neg (by simp), if_neg (by simp), Nat.zero_mul, show e - -1074 = e + 1074 by omega, h3, hv]
    omega
  unfold Format.add
  rw [h1, h0]
  show (some (Datum.number (if signed false m (e - min e (-1074)).toNat + signed false 0 (-1074 - min e (-1074)).toNat = 0 then false && false else decide (signed false m (e - min e (-1074)).toNat + signed false 0 (-1074 - min e (-1074)).toNat < 0)) (signed false m (e - min e (-1074)).toNat + signed false 0 (-1074 - min e (-1074)).toNat).natAbs (min e (-1074)))).map double.write = some r
  rw [e1, Int.min_eq_right h2]
  have e3 : (if ((u * 2 ^ k : Nat) : Int) = 0 then false && false else decide (((u * 2 ^ k : Nat) : Int) < 0)) = false := by
    split
    · rfl
    · exact decide_eq_false (by omega)
  rw [e3, Int.natAbs_natCast]
  show some (double.nearest false (u * 2 ^ k) (-1074)) = some r
  rw [nearest_exact p1 p2 p3, hr]
end Go.Proofs.Ytaekaikkldnikaa
