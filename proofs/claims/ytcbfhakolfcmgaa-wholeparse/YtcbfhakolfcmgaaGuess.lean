/-
  Proved here: a guessed limb of a quotient is the true one or one more.
-/
import Derived.Test.YtcbfhakolfcmgaaTake
import Derived.Test.YtcbfhakolfcmgaaCmp
namespace Go.Proofs.Ytcbfhakolfcmgaa
open Go.RowKit

theorem mul_pair (Q hi nx : Nat) : Q * (hi * 4294967296 + nx) = 4294967296 * (Q * hi) + Q * nx := by rw [Nat.mul_add, ← Nat.mul_assoc, Nat.mul_comm (Q * hi)]
theorem g_dec {QT Q L hi nx T p2 : Nat} (h1 : QT * (hi * 4294967296 + nx) ≤ T * 4294967296 + p2) (h2 : Q * hi + L = T) (h3 : L * 4294967296 + p2 < Q * nx) : QT + 1 ≤ Q := by
  rcases Nat.lt_or_ge QT Q with h | h
  · exact h
  · have h4 : Q * (hi * 4294967296 + nx) ≤ QT * (hi * 4294967296 + nx) := Nat.mul_le_mul_right _ h
    rw [mul_pair Q] at h4
    omega
theorem g_fit {Q L hi nx T p2 : Nat} (h2 : Q * hi + L = T) (h3 : Q * nx ≤ L * 4294967296 + p2) : Q * (hi * 4294967296 + nx) ≤ T * 4294967296 + p2 := by
  rw [mul_pair]; omega
theorem g_pred {Q L hi T : Nat} (h : Q * hi + L = T) (hQ : 1 ≤ Q) : (Q - 1) * hi + (L + hi) = T := by
  obtain ⟨k, rfl⟩ : ∃ k, Q = k + 1 := ⟨Q - 1, by omega⟩
  rw [Nat.add_mul, Nat.one_mul] at h
  rw [Nat.add_sub_cancel]; omega
/-- A guess that was lessened to where what is left outweighs all is a limb. -/
theorem g_limb {Q L hi T p0 p1 : Nat} (h : Q * hi + L = T) (hT : T = p0 * 4294967296 + p1) (hp0 : p0 ≤ hi) (hp1 : p1 < 4294967296) (hL : 4294967296 ≤ L) : Q < 4294967296 := by
  rcases Nat.lt_or_ge Q 4294967296 with h1 | h1
  · exact h1
  · have h2 : 4294967296 * hi ≤ Q * hi := Nat.mul_le_mul_right _ h1
    omega

theorem ret_int {k : IntKind} {a b : Int} (h : a = b) : Ending.returned (.int k a) = .returned (.int k b) := by rw [h]
/-- The guess lies right. -/
def GuessOk (p b q : Nat) : Prop := q < 4294967296 ∧ (q - 1) * b ≤ p ∧ p < (q + 1) * b
theorem guess_done {p b : List Nat} {n q : Nat} (hp : limbs p) (hb : limbs b) (hpl : p.length = n + 3) (hbl : b.length = n + 2) (hhi : 2147483648 ≤ b.getD (n + 1) 0) (hq : q < 4294967296) (hge : val p / val b ≤ q)
    (hfit : q * (b.getD (n + 1) 0 * 4294967296 + b.getD n 0) ≤ (p.getD (n + 2) 0 * 4294967296 + p.getD (n + 1) 0) * 4294967296 + p.getD n 0) : GuessOk (val p) (val b) q := by
  have h1 := top_two hb hbl
  have h2 := top_three hp hpl
  have hbp : 0 < val b := by
    have : 0 < 4294967296 ^ n := Nat.pow_pos (by decide)
    have h3 : 1 * 4294967296 ^ n ≤ (b.getD (n + 1) 0 * 4294967296 + b.getD n 0) * 4294967296 ^ n := Nat.mul_le_mul_right _ (by omega)
    omega
  refine ⟨hq, guess_high h1.2 h2.1 hfit (by omega), ?_⟩
  have h4 := Nat.lt_mul_div_succ (val p) hbp
  have h5 : (val p / val b + 1) * val b ≤ (q + 1) * val b := Nat.mul_le_mul_right _ (by omega)
  rw [Nat.mul_comm] at h4
  omega
theorem quo_low {p b : List Nat} {n : Nat} (hp : limbs p) (hb : limbs b) (hpl : p.length = n + 3) (hbl : b.length = n + 2) :
    val p / val b * (b.getD (n + 1) 0 * 4294967296 + b.getD n 0) ≤ (p.getD (n + 2) 0 * 4294967296 + p.getD (n + 1) 0) * 4294967296 + p.getD n 0 :=
  guess_low (top_two hb hbl).1 (top_three hp hpl).2 (Nat.div_mul_le_self _ _)
theorem top_le {p b : List Nat} {n : Nat} (hb : limbs b) (hpl : p.length = n + 3) (hbl : b.length = n + 2) (h : val p < 4294967296 * val b) : p.getD (n + 2) 0 ≤ b.getD (n + 1) 0 := by
  have e1 := low_succ p (n + 2)
  have e2 := low_succ b (n + 1)
  have l2 := low_lt hb (n + 1)
  rw [low_all (by omega)] at e1 e2
  have hp1 : (4294967296 : Nat) ^ (n + 2) = 4294967296 * 4294967296 ^ (n + 1) := by rw [Nat.pow_succ _ (n + 1), Nat.mul_comm]
  rw [hp1] at e1
  generalize 4294967296 ^ (n + 1) = P at *
  rcases Nat.lt_or_ge (b.getD (n + 1) 0) (p.getD (n + 2) 0) with hlt | hge
  · have h3 : 4294967296 * P * (b.getD (n + 1) 0 + 1) ≤ 4294967296 * P * p.getD (n + 2) 0 := Nat.mul_le_mul_left _ hlt
    rw [Nat.mul_add, Nat.mul_one, Nat.mul_assoc] at h3
    have h4 : 4294967296 * P * p.getD (n + 2) 0 ≤ val p := by omega
    omega
  · exact hge

end Go.Proofs.Ytcbfhakolfcmgaa
