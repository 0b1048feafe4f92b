/-
  Proved here: plain facts on fractions: how the numbers above and below the line make a fraction, and which is greater. No condition.
  Proved here: what window answers.
-/
import Derived.Test.YtaafijifiiiblaaGreatRefOfAll
import Derived.Test.YtaafijifiiiblaaGreatMul
import Derived.Test.YtaafijifiiiblaaGreatLiftAll
import Derived.Laws.BitsAllLaws
namespace Go.Proofs.YtaafijifiiiblaaGreat

/-- A denominator as it counts. -/
def und (q : Nat) : Int := if q = 0 then 1 else q
theorem und_pos (q : Nat) : 0 < und q := by unfold und; split <;> omega
theorem und_ne (q : Nat) : und q ≠ 0 := by have := und_pos q; omega
/-- What a fraction that stands so says. -/
def rq (p : Int) (q : Nat) : Rat := Rat.divInt p (und q)
theorem rq_std (r : Rat) : rq r.num r.den = r := by
  unfold rq und
  rw [if_neg r.den_nz]
  exact Rat.num_divInt_den r
theorem rq_add (p p' : Int) (q q' : Nat) : Rat.divInt (p * und q' + p' * und q) (und q * und q') = rq p q + rq p' q' := (Rat.divInt_add_divInt _ _ (und_ne q) (und_ne q')).symm
theorem rq_mul (p p' : Int) (q q' : Nat) : Rat.divInt (p * p') (und q * und q') = rq p q * rq p' q' := (Rat.divInt_mul_divInt _ _).symm
/-- The numbers above and below the line, and what was taken out of both. -/
theorem div_parts {p q : Int} (hq : 0 < q) : ∃ k : Int, 0 < k ∧ p = (Rat.divInt p q).num * k ∧ q = (Rat.divInt p q).den * k := by
  refine ⟨(q.gcd p : Int), ?_, ?_, ?_⟩
  · have h : 0 < q.gcd p := Int.gcd_pos_of_ne_zero_left _ (by omega)
    omega
  · rw [Rat.num_divInt, Int.sign_eq_one_of_pos hq, Int.one_mul, Int.ediv_mul_cancel (Int.gcd_dvd_right ..)]
  · rw [Rat.den_divInt, if_neg (by omega)]
    have h : q.gcd p ∣ q.natAbs := Int.natAbs_dvd_natAbs.2 (Int.gcd_dvd_left ..) |> fun h => by simpa using h
    have h2 := Nat.div_mul_cancel h
    have h3 : ((q.natAbs / q.gcd p * q.gcd p : Nat) : Int) = (q.natAbs : Int) := by rw [h2]
    rw [Int.natCast_mul] at h3
    omega
theorem rq_parts (p : Int) (q : Nat) : ∃ k : Int, 0 < k ∧ p = (rq p q).num * k ∧ und q = (rq p q).den * k := div_parts (und_pos q)

/-- Which of two fractions is greater. -/
def cmpQ (x y : Rat) : Int := cmpZ (x.num * y.den) (y.num * x.den)
theorem cmpZ_scale {x y k : Int} (hk : 0 < k) : cmpZ (x * k) (y * k) = cmpZ x y := by
  unfold cmpZ
  have h1 : x * k < y * k ↔ x < y := ⟨fun h => Int.lt_of_mul_lt_mul_right h (Int.le_of_lt hk), fun h => Int.mul_lt_mul_of_pos_right h hk⟩
  have h2 : x * k = y * k ↔ x = y := ⟨fun h => Int.eq_of_mul_eq_mul_right (by omega) h, fun h => by rw [h]⟩
  simp only [h1, h2]
theorem mul4 (a b c d : Int) : a * b * (c * d) = a * c * (b * d) := by rw [Int.mul_assoc, Int.mul_assoc, Int.mul_left_comm b]
theorem cmp_rq (p p' : Int) (q q' : Nat) : cmpZ (p * und q') (p' * und q) = cmpQ (rq p q) (rq p' q') := by
  obtain ⟨k, hk, e1, e2⟩ := rq_parts p q
  obtain ⟨k', hk', e3, e4⟩ := rq_parts p' q'
  unfold cmpQ
  have h1 : p * und q' = (rq p q).num * (rq p' q').den * (k * k') := by
    rw [e4]
    conv => lhs; rw [e1]
    rw [mul4]
  have h2 : p' * und q = (rq p' q').num * (rq p q).den * (k * k') := by
    rw [e2]
    conv => lhs; rw [e3]
    rw [mul4, Int.mul_comm k' k]
  rw [h1, h2]
  exact cmpZ_scale (Int.mul_pos hk hk')
theorem low_num {p q : Int} (hq : q ≠ 0) : p.tdiv (zv (decide (q < 0)) (Nat.gcd p.natAbs q.natAbs)) = (Rat.divInt p q).num := by
  rw [Rat.num_divInt]
  have hg : q.gcd p = Nat.gcd p.natAbs q.natAbs := by rw [Int.gcd_comm]; rfl
  rw [hg]
  have hpos : 0 < Nat.gcd p.natAbs q.natAbs := Nat.gcd_pos_of_pos_right _ (by omega)
  have hd : ((Nat.gcd p.natAbs q.natAbs : Nat) : Int) ∣ p := Int.natCast_dvd_natCast.2 (Nat.gcd_dvd_left ..) |> fun h => Int.dvd_natAbs.1 h
  obtain ⟨k, hk⟩ := hd
  obtain ⟨g, hgg⟩ : ∃ g, g = Nat.gcd p.natAbs q.natAbs := ⟨_, rfl⟩
  rw [← hgg] at hk hpos ⊢
  clear hgg hg
  have hg0 : (g : Int) ≠ 0 := by omega
  rw [hk]
  unfold zv
  rcases Int.lt_or_gt_of_ne hq with h | h
  · rw [if_pos (decide_eq_true h), Int.sign_eq_neg_one_of_neg h, Int.tdiv_neg, Int.mul_tdiv_cancel_left _ hg0, Int.neg_mul, Int.one_mul, ← Int.mul_neg, Int.mul_ediv_cancel_left _ hg0]
  · rw [if_neg (by simp; omega), Int.sign_eq_one_of_pos h, Int.mul_tdiv_cancel_left _ hg0, Int.one_mul, Int.mul_ediv_cancel_left _ hg0]
theorem low_den {p q : Int} (hq : q ≠ 0) : q.tdiv (zv (decide (q < 0)) (Nat.gcd p.natAbs q.natAbs)) = ((Rat.divInt p q).den : Int) := by
  rw [Rat.den_divInt, if_neg hq]
  have hg : q.gcd p = Nat.gcd p.natAbs q.natAbs := by rw [Int.gcd_comm]; rfl
  rw [hg]
  have hpos : 0 < Nat.gcd p.natAbs q.natAbs := Nat.gcd_pos_of_pos_right _ (by omega)
  obtain ⟨k, hk⟩ := Nat.gcd_dvd_right p.natAbs q.natAbs
  obtain ⟨g, hgg⟩ : ∃ g, g = Nat.gcd p.natAbs q.natAbs := ⟨_, rfl⟩
  rw [← hgg] at hk hpos ⊢
  clear hgg hg
  have hg0 : (g : Int) ≠ 0 := by omega
  rw [hk, Nat.mul_div_cancel_left _ hpos]
  unfold zv
  rcases Int.lt_or_gt_of_ne hq with h | h
  · have e : q = -((g : Int) * k) := by rw [← Int.natCast_mul]; omega
    rw [if_pos (decide_eq_true h), e, Int.neg_tdiv, Int.tdiv_neg, Int.mul_tdiv_cancel_left _ hg0]; omega
  · have e : q = (g : Int) * k := by rw [← Int.natCast_mul]; omega
    rw [if_neg (by simp; omega), e, Int.mul_tdiv_cancel_left _ hg0]
theorem num_le {p q : Int} (hq : q ≠ 0) : (Rat.divInt p q).num.natAbs ≤ p.natAbs := by
  rw [← low_num hq, Int.natAbs_tdiv]
  exact Nat.div_le_self ..
theorem den_le {p q : Int} (hq : q ≠ 0) : (Rat.divInt p q).den ≤ q.natAbs := by
  rw [Rat.den_divInt, if_neg hq]
  exact Nat.div_le_self ..
/-- So many limbs hold what stands above and below the line. -/
structure RSz (r : Rat) (L : Nat) : Prop where
  num : Sz r.num L
  den : Sz (r.den : Int) L
theorem RSz.mono {r : Rat} {L M : Nat} (h : RSz r L) (hm : L ≤ M) : RSz r M := ⟨h.num.mono hm, h.den.mono hm⟩
theorem RSz.of {p q : Int} {L : Nat} (hq : q ≠ 0) (hp : Sz p L) (hd : Sz q L) : RSz (Rat.divInt p q) L :=
  ⟨hp.le (num_le hq), hd.le (by rw [Int.natAbs_natCast]; exact den_le hq)⟩
theorem rsz_add {p p' : Int} {q q' : Nat} {L M : Nat} (h1 : Sz p L) (h2 : Sz (und q) L) (h3 : Sz p' M) (h4 : Sz (und q') M) : RSz (rq p q + rq p' q') (L + M + 1) := by
  rw [← rq_add]
  refine RSz.of (Int.mul_ne_zero (und_ne _) (und_ne _)) ((h1.mul h4).add ?_) ((h2.mul h4).mono (Nat.le_succ _))
  rw [Nat.add_comm]
  exact h3.mul h2
theorem rsz_mul {p p' : Int} {q q' : Nat} {L M : Nat} (h1 : Sz p L) (h2 : Sz (und q) L) (h3 : Sz p' M) (h4 : Sz (und q') M) : RSz (rq p q * rq p' q') (L + M) := by
  rw [← rq_mul]
  exact RSz.of (Int.mul_ne_zero (und_ne _) (und_ne _)) (h1.mul h3) (h2.mul h4)
theorem zv_dec {n : Bool} {k : Nat} (h : zv n k ≠ 0) : n = decide (zv n k < 0) := by
  cases n
  · simp [zv]
  · simp [zv] at h ⊢
    omega
end Go.Proofs.YtaafijifiiiblaaGreat

namespace Go.Proofs.YtaafijifiiiblaaGreat
open Go.RowKit

theorem window_math {x y z t P Q V B : Nat} (hB : B = P * Q) (hP : 0 < P) (hx : x < B) (hy : y < B) (hV : V = x + B * y + B * B * z + B * B * B * t) :
    V / P % (B * B) = x / P + Q * y + Q * B * (z % P) := by
  have e1 : V / P = x / P + (Q * y + Q * B * z + Q * B * B * t) := by
    have h1 : V = x + P * (Q * y + Q * B * z + Q * B * B * t) := by
      rw [hV]
      have k1 : P * (Q * y) = B * y := by rw [← Nat.mul_assoc, ← hB]
      have k2 : P * (Q * B * z) = B * B * z := by rw [show P * (Q * B * z) = (P * Q) * (B * z) by simp only [Nat.mul_assoc], ← hB, Nat.mul_assoc]
      have k3 : P * (Q * B * B * t) = B * B * B * t := by rw [show P * (Q * B * B * t) = (P * Q) * (B * B * t) by simp only [Nat.mul_assoc], ← hB]; simp only [Nat.mul_assoc]
      rw [Nat.mul_add, Nat.mul_add, k1, k2, k3]; omega
    rw [h1, Nat.add_mul_div_left _ _ hP]
  have e2 : Q * B * z = Q * B * (z % P) + B * B * (z / P) := by
    conv => lhs; rw [← Nat.mod_add_div z P, Nat.mul_add]
    congr 1
    rw [← Nat.mul_assoc]; congr 1
    rw [Nat.mul_right_comm, Nat.mul_comm Q P, ← hB]
  have e3 : Q * B * B * t = B * B * (Q * t) := by rw [Nat.mul_assoc Q B B, Nat.mul_assoc, Nat.mul_left_comm]
  have hX : x / P < Q := Nat.div_lt_of_lt_mul (by rw [← hB]; exact hx)
  have hZ : Q * B * (z % P) + Q * B ≤ B * B := by
    have h1 : Q * B * (z % P + 1) ≤ Q * B * P := Nat.mul_le_mul_left _ (Nat.mod_lt _ hP)
    rw [Nat.mul_add, Nat.mul_one] at h1
    have h2 : Q * B * P = B * B := by rw [Nat.mul_right_comm, Nat.mul_comm Q P, ← hB]
    omega
  have hY : Q * y + Q ≤ Q * B := by
    have h1 : Q * (y + 1) ≤ Q * B := Nat.mul_le_mul_left _ hy
    rw [Nat.mul_add, Nat.mul_one] at h1; exact h1
  rw [e1, e2, e3, show x / P + (Q * y + (Q * B * (z % P) + B * B * (z / P)) + B * B * (Q * t)) = (x / P + Q * y + Q * B * (z % P)) + B * B * (z / P + Q * t) by rw [Nat.mul_add]; omega, Nat.add_mul_mod_self_left]
  exact Nat.mod_eq_of_lt (by omega)
theorem three_limbs {X : List Nat} (hX : limbs X) (k : Nat) : ∃ R, val X / 4294967296 ^ k = X.getD k 0 + 4294967296 * X.getD (k + 1) 0 + 4294967296 * 4294967296 * X.getD (k + 2) 0 + 4294967296 * 4294967296 * 4294967296 * R := by
  obtain ⟨R, h⟩ := two_limbs hX k
  obtain ⟨R2, h2⟩ := two_limbs hX (k + 2)
  have h3 : val X / 4294967296 ^ (k + 2) = R := by
    rw [Nat.pow_add, ← Nat.div_div_eq_div_mul, h, show (4294967296 : Nat) ^ 2 = 4294967296 * 4294967296 from rfl]
    have a := limb_lt hX k
    have b := limb_lt hX (k + 1)
    rw [Nat.add_mul_div_left _ _ (by decide), Nat.div_eq_of_lt (by omega), Nat.zero_add]
  rw [h3] at h2
  refine ⟨X.getD (k + 3) 0 + 4294967296 * R2, ?_⟩
  rw [h, h2, show k + 2 + 1 = k + 3 by omega]
  simp only [Nat.mul_add, Nat.mul_assoc]
  omega
end Go.Proofs.YtaafijifiiiblaaGreat
