/-
  Proved here: what window answers.
-/
import Derived.Test.YtnlajeinegampaaMul
import Derived.Test.YtnlajeinegampaaShiftMath
import Derived.Test.YtnlajeinegampaaLift
import Derived.Laws.BitsAllLaws
namespace Go.Proofs.Ytnlajeinegampaa
open Go.RowKit

theorem window_math {x y z t P Q V B : Nat} (hB : B = P * Q) (hP : 0 < P) (hx : x < B) (hy : y < B) (hV : V = x + B * y + B * B * z + B * B * B * t) :
    V / P % (B * B) = x / P + Q * y + Q * B * (z % P) := by
  have e1 : V / P = x / P + (Q * y + Q * B * z + Q * B * B * t) := by
    have h1 : V = x + P * (Q * y + Q * B * z + Q * B * B * t) := by
      rw [hV]
      have k1 : P * (Q * y) = B * y := by rw [← Nat.mul_assoc, ← hB]
      have k2 : P * (Q * B * z) = B * B * z := by rw [show P * (Q * B * z) = (P * Q) * (B * z) by simp only [Nat.mul_assoc], ← hB, Nat.mul_assoc]
      have k3 : P * (Q * B * B * t) = B * B * B * t := by rw [show P * (Q * B * B * t) = (P * Q) * (B * B * t) by simp only [Nat.mul_assoc], ← hB]; simp only [Nat.mul_assoc]
      rw [Nat.mul_add, Nat.mul_add, k1, k2, k3]; omega
    rw [h1, Nat.add_mul_div_left _ _ hP]
  have e2 : Q * B * z = Q * B * (z % P) + B * B * (z / P) := by
    conv => lhs; rw [← Nat.mod_add_div z P, Nat.mul_add]
    congr 1
    rw [← Nat.mul_assoc]; congr 1
    rw [Nat.mul_right_comm, Nat.mul_comm Q P, ← hB]
  have e3 : Q * B * B * t = B * B * (Q * t) := by rw [Nat.mul_assoc Q B B, Nat.mul_assoc, Nat.mul_left_comm]
  have hX : x / P < Q := Nat.div_lt_of_lt_mul (by rw [← hB]; exact hx)
  have hZ : Q * B * (z % P) + Q * B ≤ B * B := by
    have h1 : Q * B * (z % P + 1) ≤ Q * B * P := Nat.mul_le_mul_left _ (Nat.mod_lt _ hP)
    rw [Nat.mul_add, Nat.mul_one] at h1
    have h2 : Q * B * P = B * B := by rw [Nat.mul_right_comm, Nat.mul_comm Q P, ← hB]
    omega
  have hY : Q * y + Q ≤ Q * B := by
    have h1 : Q * (y + 1) ≤ Q * B := Nat.mul_le_mul_left _ hy
    rw [Nat.mul_add, Nat.mul_one] at h1; exact h1
  rw [e1, e2, e3, show x / P + (Q * y + (Q * B * (z % P) + B * B * (z / P)) + B * B * (Q * t)) = (x / P + Q * y + Q * B * (z % P)) + B * B * (z / P + Q * t) by rw [Nat.mul_add]; omega, Nat.add_mul_mod_self_left]
  exact Nat.mod_eq_of_lt (by omega)
theorem three_limbs {X : List Nat} (hX : limbs X) (k : Nat) : ∃ R, val X / 4294967296 ^ k = X.getD k 0 + 4294967296 * X.getD (k + 1) 0 + 4294967296 * 4294967296 * X.getD (k + 2) 0 + 4294967296 * 4294967296 * 4294967296 * R := by
  obtain ⟨R, h⟩ := two_limbs hX k
  obtain ⟨R2, h2⟩ := two_limbs hX (k + 2)
  have h3 : val X / 4294967296 ^ (k + 2) = R := by
    rw [Nat.pow_add, ← Nat.div_div_eq_div_mul, h, show (4294967296 : Nat) ^ 2 = 4294967296 * 4294967296 from rfl]
    have a := limb_lt hX k
    have b := limb_lt hX (k + 1)
    rw [Nat.add_mul_div_left _ _ (by decide), Nat.div_eq_of_lt (by omega), Nat.zero_add]
  rw [h3] at h2
  refine ⟨X.getD (k + 3) 0 + 4294967296 * R2, ?_⟩
  rw [h, h2, show k + 2 + 1 = k + 3 by omega]
  simp only [Nat.mul_add, Nat.mul_assoc]
  omega
end Go.Proofs.Ytnlajeinegampaa
