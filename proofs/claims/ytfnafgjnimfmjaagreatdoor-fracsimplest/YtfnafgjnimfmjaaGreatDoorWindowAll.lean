/-
  Proved here: plain facts on fractions: how the numbers above and below the line make a fraction, and which is greater. No condition.
  Proved here: what window answers.
  Proved here: what window answers.
-/
import Derived.Test.YtfnafgjnimfmjaaGreatDoorAllAll
import Derived.Test.YtfnafgjnimfmjaaGreatDoorMul
import Derived.Test.YtfnafgjnimfmjaaGreatDoorLiftAll
import Derived.Laws.BitsAllLaws
import Derived.Test.YtfnafgjnimfmjaaGreatDoorLate
namespace Go.Proofs.YtfnafgjnimfmjaaGreatDoor

/-- A denominator as it counts. -/
def und (q : Nat) : Int := if q = 0 then 1 else q
theorem und_pos (q : Nat) : 0 < und q := by unfold und; split <;> omega
theorem und_ne (q : Nat) : und q ≠ 0 := by have := und_pos q; omega
/-- What a fraction that stands so says. -/
def rq (p : Int) (q : Nat) : Rat := Rat.divInt p (und q)
theorem rq_std (r : Rat) : rq r.num r.den = r := by
  unfold rq und
  rw [if_neg r.den_nz]
  exact Rat.num_divInt_den r
theorem rq_add (p p' : Int) (q q' : Nat) : Rat.divInt (p * und q' + p' * und q) (und q * und q') = rq p q + rq p' q' := (Rat.divInt_add_divInt _ _ (und_ne q) (und_ne q')).symm
theorem rq_mul (p p' : Int) (q q' : Nat) : Rat.divInt (p * p') (und q * und q') = rq p q * rq p' q' := (Rat.divInt_mul_divInt _ _).symm
theorem rq_neg (p : Int) (q : Nat) : Rat.divInt (-p) (und q) = -rq p q := (Rat.neg_divInt _ _).symm
/-- The numbers above and below the line, and what was taken out of both. -/
theorem div_parts {p q : Int} (hq : 0 < q) : ∃ k : Int, 0 < k ∧ p = (Rat.divInt p q).num * k ∧ q = (Rat.divInt p q).den * k := by
  refine ⟨(q.gcd p : Int), ?_, ?_, ?_⟩
  · have h : 0 < q.gcd p := Int.gcd_pos_of_ne_zero_left _ (by omega)
    omega
  · rw [Rat.num_divInt, Int.sign_eq_one_of_pos hq, Int.one_mul, Int.ediv_mul_cancel (Int.gcd_dvd_right ..)]
  · rw [Rat.den_divInt, if_neg (by omega)]
    have h : q.gcd p ∣ q.natAbs := Int.natAbs_dvd_natAbs.2 (Int.gcd_dvd_left ..) |> fun h => by simpa using h
    have h2 := Nat.div_mul_cancel h
    have h3 : ((q.natAbs / q.gcd p * q.gcd p : Nat) : Int) = (q.natAbs : Int) := by rw [h2]
    rw [Int.natCast_mul] at h3
    omega
theorem rq_parts (p : Int) (q : Nat) : ∃ k : Int, 0 < k ∧ p = (rq p q).num * k ∧ und q = (rq p q).den * k := div_parts (und_pos q)

/-- Which of two fractions is greater. -/
def cmpQ (x y : Rat) : Int := cmpZ (x.num * y.den) (y.num * x.den)
def sgnQ (x : Rat) : Int := cmpZ x.num 0
theorem cmpZ_scale {x y k : Int} (hk : 0 < k) : cmpZ (x * k) (y * k) = cmpZ x y := by
  unfold cmpZ
  have h1 : x * k < y * k ↔ x < y := ⟨fun h => Int.lt_of_mul_lt_mul_right h (Int.le_of_lt hk), fun h => Int.mul_lt_mul_of_pos_right h hk⟩
  have h2 : x * k = y * k ↔ x = y := ⟨fun h => Int.eq_of_mul_eq_mul_right (by omega) h, fun h => by rw [h]⟩
  simp only [h1, h2]
theorem mul4 (a b c d : Int) : a * b * (c * d) = a * c * (b * d) := by rw [Int.mul_assoc, Int.mul_assoc, Int.mul_left_comm b]
theorem cmp_rq (p p' : Int) (q q' : Nat) : cmpZ (p * und q') (p' * und q) = cmpQ (rq p q) (rq p' q') := by
  obtain ⟨k, hk, e1, e2⟩ := rq_parts p q
  obtain ⟨k', hk', e3, e4⟩ := rq_parts p' q'
  unfold cmpQ
  have h1 : p * und q' = (rq p q).num * (rq p' q').den * (k * k') := by
    rw [e4]
    conv => lhs; rw [e1]
    rw [mul4]
  have h2 : p' * und q = (rq p' q').num * (rq p q).den * (k * k') := by
    rw [e2]
    conv => lhs; rw [e3]
    rw [mul4, Int.mul_comm k' k]
  rw [h1, h2]
  exact cmpZ_scale (Int.mul_pos hk hk')
theorem sgn_rq (p : Int) (q : Nat) : cmpZ p 0 = sgnQ (rq p q) := by
  obtain ⟨k, hk, e1, e2⟩ := rq_parts p q
  unfold sgnQ
  have h := cmpZ_scale (x := (rq p q).num) (y := 0) hk
  rw [← e1, Int.zero_mul] at h
  exact h
theorem low_num {p q : Int} (hq : q ≠ 0) : p.tdiv (zv (decide (q < 0)) (Nat.gcd p.natAbs q.natAbs)) = (Rat.divInt p q).num := by
  rw [Rat.num_divInt]
  have hg : q.gcd p = Nat.gcd p.natAbs q.natAbs := by rw [Int.gcd_comm]; rfl
  rw [hg]
  have hpos : 0 < Nat.gcd p.natAbs q.natAbs := Nat.gcd_pos_of_pos_right _ (by omega)
  have hd : ((Nat.gcd p.natAbs q.natAbs : Nat) : Int) ∣ p := Int.natCast_dvd_natCast.2 (Nat.gcd_dvd_left ..) |> fun h => Int.dvd_natAbs.1 h
  obtain ⟨k, hk⟩ := hd
  obtain ⟨g, hgg⟩ : ∃ g, g = Nat.gcd p.natAbs q.natAbs := ⟨_, rfl⟩
  rw [← hgg] at hk hpos ⊢
  clear hgg hg
  have hg0 : (g : Int) ≠ 0 := by omega
  rw [hk]
  unfold zv
  rcases Int.lt_or_gt_of_ne hq with h | h
  · rw [if_pos (decide_eq_true h), Int.sign_eq_neg_one_of_neg h, Int.tdiv_neg, Int.mul_tdiv_cancel_left _ hg0, Int.neg_mul, Int.one_mul, ← Int.mul_neg, Int.mul_ediv_cancel_left _ hg0]
  · rw [if_neg (by simp; omega), Int.sign_eq_one_of_pos h, Int.mul_tdiv_cancel_left _ hg0, Int.one_mul, Int.mul_ediv_cancel_left _ hg0]
theorem low_den {p q : Int} (hq : q ≠ 0) : q.tdiv (zv (decide (q < 0)) (Nat.gcd p.natAbs q.natAbs)) = ((Rat.divInt p q).den : Int) := by
  rw [Rat.den_divInt, if_neg hq]
  have hg : q.gcd p = Nat.gcd p.natAbs q.natAbs := by rw [Int.gcd_comm]; rfl
  rw [hg]
  have hpos : 0 < Nat.gcd p.natAbs q.natAbs := Nat.gcd_pos_of_pos_right _ (by omega)
  obtain ⟨k, hk⟩ := Nat.gcd_dvd_right p.natAbs q.natAbs
  obtain ⟨g, hgg⟩ : ∃ g, g = Nat.gcd p.natAbs q.natAbs := ⟨_, rfl⟩
  rw [← hgg] at hk hpos ⊢
  clear hgg hg
  have hg0 : (g : Int) ≠ 0 := by omega
  rw [hk, Nat.mul_div_cancel_left _ hpos]
  unfold zv
  rcases Int.lt_or_gt_of_ne hq with h | h
  · have e : q = -((g : Int) * k) := by rw [← Int.natCast_mul]; omega
    rw [if_pos (decide_eq_true h), e, Int.neg_tdiv, Int.tdiv_neg, Int.mul_tdiv_cancel_left _ hg0]; omega
  · have e : q = (g : Int) * k := by rw [← Int.natCast_mul]; omega
    rw [if_neg (by simp; omega), e, Int.mul_tdiv_cancel_left _ hg0]
theorem num_le {p q : Int} (hq : q ≠ 0) : (Rat.divInt p q).num.natAbs ≤ p.natAbs := by
  rw [← low_num hq, Int.natAbs_tdiv]
  exact Nat.div_le_self ..
theorem den_le {p q : Int} (hq : q ≠ 0) : (Rat.divInt p q).den ≤ q.natAbs := by
  rw [Rat.den_divInt, if_neg hq]
  exact Nat.div_le_self ..
/-- So many limbs hold what stands above and below the line. -/
structure RSz (r : Rat) (L : Nat) : Prop where
  num : Sz r.num L
  den : Sz (r.den : Int) L
theorem RSz.mono {r : Rat} {L M : Nat} (h : RSz r L) (hm : L ≤ M) : RSz r M := ⟨h.num.mono hm, h.den.mono hm⟩
theorem RSz.of {p q : Int} {L : Nat} (hq : q ≠ 0) (hp : Sz p L) (hd : Sz q L) : RSz (Rat.divInt p q) L :=
  ⟨hp.le (num_le hq), hd.le (by rw [Int.natAbs_natCast]; exact den_le hq)⟩
theorem rsz_add {p p' : Int} {q q' : Nat} {L M : Nat} (h1 : Sz p L) (h2 : Sz (und q) L) (h3 : Sz p' M) (h4 : Sz (und q') M) : RSz (rq p q + rq p' q') (L + M + 1) := by
  rw [← rq_add]
  refine RSz.of (Int.mul_ne_zero (und_ne _) (und_ne _)) ((h1.mul h4).add ?_) ((h2.mul h4).mono (Nat.le_succ _))
  rw [Nat.add_comm]
  exact h3.mul h2
theorem rsz_neg {p : Int} {q : Nat} {L : Nat} (h1 : Sz p L) (h2 : Sz (und q) L) : RSz (-rq p q) L := by
  rw [← rq_neg]
  exact RSz.of (und_ne _) h1.neg h2
theorem zv_dec {n : Bool} {k : Nat} (h : zv n k ≠ 0) : n = decide (zv n k < 0) := by
  cases n
  · simp [zv]
  · simp [zv] at h ⊢
    omega
end Go.Proofs.YtfnafgjnimfmjaaGreatDoor

namespace Go.Proofs.YtfnafgjnimfmjaaGreatDoor
open Go.RowKit

theorem window_math {x y z t P Q V B : Nat} (hB : B = P * Q) (hP : 0 < P) (hx : x < B) (hy : y < B) (hV : V = x + B * y + B * B * z + B * B * B * t) :
    V / P % (B * B) = x / P + Q * y + Q * B * (z % P) := by
  have e1 : V / P = x / P + (Q * y + Q * B * z + Q * B * B * t) := by
    have h1 : V = x + P * (Q * y + Q * B * z + Q * B * B * t) := by
      rw [hV]
      have k1 : P * (Q * y) = B * y := by rw [← Nat.mul_assoc, ← hB]
      have k2 : P * (Q * B * z) = B * B * z := by rw [show P * (Q * B * z) = (P * Q) * (B * z) by simp only [Nat.mul_assoc], ← hB, Nat.mul_assoc]
      have k3 : P * (Q * B * B * t) = B * B * B * t := by rw [show P * (Q * B * B * t) = (P * Q) * (B * B * t) by simp only [Nat.mul_assoc], ← hB]; simp only [Nat.mul_assoc]
      rw [Nat.mul_add, Nat.mul_add, k1, k2, k3]; omega
    rw [h1, Nat.add_mul_div_left _ _ hP]
  have e2 : Q * B * z = Q * B * (z % P) + B * B * (z / P) := by
    conv => lhs; rw [← Nat.mod_add_div z P, Nat.mul_add]
    congr 1
    rw [← Nat.mul_assoc]; congr 1
    rw [Nat.mul_right_comm, Nat.mul_comm Q P, ← hB]
  have e3 : Q * B * B * t = B * B * (Q * t) := by rw [Nat.mul_assoc Q B B, Nat.mul_assoc, Nat.mul_left_comm]
  have hX : x / P < Q := Nat.div_lt_of_lt_mul (by rw [← hB]; exact hx)
  have hZ : Q * B * (z % P) + Q * B ≤ B * B := by
    have h1 : Q * B * (z % P + 1) ≤ Q * B * P := Nat.mul_le_mul_left _ (Nat.mod_lt _ hP)
    rw [Nat.mul_add, Nat.mul_one] at h1
    have h2 : Q * B * P = B * B := by rw [Nat.mul_right_comm, Nat.mul_comm Q P, ← hB]
    omega
  have hY : Q * y + Q ≤ Q * B := by
    have h1 : Q * (y + 1) ≤ Q * B := Nat.mul_le_mul_left _ hy
    rw [Nat.mul_add, Nat.mul_one] at h1; exact h1
  rw [e1, e2, e3, show x / P + (Q * y + (Q * B * (z % P) + B * B * (z / P)) + B * B * (Q * t)) = (x / P + Q * y + Q * B * (z % P)) + B * B * (z / P + Q * t) by rw [Nat.mul_add]; omega, Nat.add_mul_mod_self_left]
  exact Nat.mod_eq_of_lt (by omega)
theorem three_limbs {X : List Nat} (hX : limbs X) (k : Nat) : ∃ R, val X / 4294967296 ^ k = X.getD k 0 + 4294967296 * X.getD (k + 1) 0 + 4294967296 * 4294967296 * X.getD (k + 2) 0 + 4294967296 * 4294967296 * 4294967296 * R := by
  obtain ⟨R, h⟩ := two_limbs hX k
  obtain ⟨R2, h2⟩ := two_limbs hX (k + 2)
  have h3 : val X / 4294967296 ^ (k + 2) = R := by
    rw [Nat.pow_add, ← Nat.div_div_eq_div_mul, h, show (4294967296 : Nat) ^ 2 = 4294967296 * 4294967296 from rfl]
    have a := limb_lt hX k
    have b := limb_lt hX (k + 1)
    rw [Nat.add_mul_div_left _ _ (by decide), Nat.div_eq_of_lt (by omega), Nat.zero_add]
  rw [h3] at h2
  refine ⟨X.getD (k + 3) 0 + 4294967296 * R2, ?_⟩
  rw [h, h2, show k + 2 + 1 = k + 3 by omega]
  simp only [Nat.mul_add, Nat.mul_assoc]
  omega
end Go.Proofs.YtfnafgjnimfmjaaGreatDoor

namespace Go.Proofs.YtfnafgjnimfmjaaGreatDoor
open Go.RowKit

theorem shr_eq {x off X : Nat} (h : off ≤ 63) (hX : X = x / 2 ^ off) : Op.shift .shr .u64 (x : Int) .i64 (off : Int) = pure (.int .u64 (X : Int)) := by
  unfold Op.shift
  rw [if_neg (by omega)]
  have h1 : min (Int.toNat (off : Int)) IntKind.u64.bits = off := by rw [Int.toNat_natCast]; exact Nat.min_eq_left (by show off ≤ 64; omega)
  simp only [h1]
  congr 2
  rw [Int.fdiv_eq_ediv_of_nonneg _ (by exact Int.le_of_lt (Int.pow_pos (by decide))), hX]
  simp
theorem shl_eq {y r Y : Nat} (h : r ≤ 64) (hY : Y = y * 2 ^ r % 18446744073709551616) : Op.shift .shl .u64 (y : Int) .i64 (r : Int) = pure (.int .u64 (Y : Int)) := by
  unfold Op.shift
  rw [if_neg (by omega)]
  have h1 : min (Int.toNat (r : Int)) IntKind.u64.bits = r := by rw [Int.toNat_natCast]; exact Nat.min_eq_left h
  simp only [h1]
  congr 2
  rw [IntKind.wrap_u64, hY]
  simp
theorem or_add {a b i : Nat} (h : a < 2 ^ i) (hs : a + b * 2 ^ i < 18446744073709551616) : bits BinOp.or IntKind.u64 (a : Int) ((b * 2 ^ i : Nat) : Int) = ((a + b * 2 ^ i : Nat) : Int) := by
  rw [bits_or_u64_nat a (b * 2 ^ i) (by omega) (by omega)]
  congr 1
  have h2 := Nat.shiftLeft_add_eq_or_of_lt h b
  rw [Nat.shiftLeft_eq] at h2
  rw [Nat.or_comm, ← h2, Nat.add_comm]

set_option maxRecDepth 100000 in
set_option maxHeartbeats 3200000 in
theorem window_any (u : Value) (xs : List Nat) (n : Nat) (w : World) (h : Num w u xs) (hn : n ≤ 1000000000) :
    Calls Tryz.prog 137 #[u, .int .i64 (n : Int)] w fun e w' => e = .returned (.int .u64 ((val xs / 2 ^ n % 18446744073709551616 : Nat) : Int)) ∧ ∃ q, w' = w.drewN q := by
  obtain ⟨ao, cap, rfl, _, _⟩ : ∃ ao cap, u = .slice ao xs.length cap ∧ xs.length ≤ cap ∧ cap ≤ 9223372036854775807 := by
    obtain ⟨_, ao, cap, e, h1, h2, _⟩ := h
    exact ⟨ao, cap, e, h1, h2⟩
  obtain ⟨s, hs⟩ : ∃ s, s = n / 32 := ⟨_, rfl⟩
  obtain ⟨off, ho⟩ : ∃ off, off = n % 32 := ⟨_, rfl⟩
  have e1 : (n : Int) / 32 = (s : Int) := by omega
  have e2 : (n : Int) % 32 = (off : Int) := by omega
  have ho1 : off ≤ 31 := by omega
  have hx0 := limb_lt h.1 s
  have hy0 := limb_lt h.1 (s + 1)
  have hz0 := limb_lt h.1 (s + 2)
  obtain ⟨t, ht⟩ := three_limbs h.1 s
  have hBP : 4294967296 = 2 ^ off * 2 ^ (32 - off) := B_split (by omega)
  have HM : Hid (val xs / 2 ^ n % 18446744073709551616 = xs.getD s 0 / 2 ^ off + 2 ^ (32 - off) * xs.getD (s + 1) 0 + 2 ^ (32 - off) * 4294967296 * (xs.getD (s + 2) 0 % 2 ^ off)) := by
    show _ = _
    have h1 := window_math (V := val xs / 4294967296 ^ s) hBP (Nat.two_pow_pos off) hx0 hy0 ht
    rw [Nat.div_div_eq_div_mul, show 4294967296 ^ s * 2 ^ off = 2 ^ n by rw [show n = 32 * s + off by omega, Nat.pow_add, Nat.pow_mul]] at h1
    exact h1
  have HL0 : Hid (∀ W, W.heap = w.heap → Calls Tryz.prog 115 #[.slice ao xs.length cap, .int .i64 (s : Int)] W fun e w' => e = .returned (.int .u64 ((xs.getD s 0 : Nat) : Int)) ∧ w' = W) := fun W hW => limb_any _ _ (s : Int) W (h.same hW) (by omega)
  obtain ⟨s1, hs1⟩ : ∃ s1, s1 = s + 1 := ⟨_, rfl⟩
  obtain ⟨s2, hs2⟩ : ∃ s2, s2 = s + 2 := ⟨_, rfl⟩
  have ea : (s : Int) + 1 = (s1 : Int) := by omega
  have eb : (s : Int) + 2 = (s2 : Int) := by omega
  have HL1 : Hid (∀ W, W.heap = w.heap → Calls Tryz.prog 115 #[.slice ao xs.length cap, .int .i64 (s1 : Int)] W fun e w' => e = .returned (.int .u64 ((xs.getD (s + 1) 0 : Nat) : Int)) ∧ w' = W) := fun W hW => by have := limb_any _ _ (s1 : Int) W (h.same hW) (by omega); rw [Int.toNat_natCast, hs1] at this; rw [hs1]; exact this
  have HL2 : Hid (∀ W, W.heap = w.heap → Calls Tryz.prog 115 #[.slice ao xs.length cap, .int .i64 (s2 : Int)] W fun e w' => e = .returned (.int .u64 ((xs.getD (s + 2) 0 : Nat) : Int)) ∧ w' = W) := fun W hW => by have := limb_any _ _ (s2 : Int) W (h.same hW) (by omega); rw [Int.toNat_natCast, hs2] at this; rw [hs2]; exact this
  generalize xs.getD s 0 = x at *
  generalize xs.getD (s + 1) 0 = y at *
  generalize xs.getD (s + 2) 0 = z at *
  obtain ⟨Q, hQ⟩ : ∃ Q, Q = 2 ^ (32 - off) := ⟨_, rfl⟩
  obtain ⟨P, hP⟩ : ∃ P, P = 2 ^ off := ⟨_, rfl⟩
  have hPpos : 0 < P := by rw [hP]; exact Nat.two_pow_pos _
  obtain ⟨X, hX⟩ : ∃ X, X = x / 2 ^ off := ⟨_, rfl⟩
  obtain ⟨Y, hY⟩ : ∃ Y, Y = y * 2 ^ (32 - off) := ⟨_, rfl⟩
  obtain ⟨Z, hZ⟩ : ∃ Z, Z = z % 2 ^ off * 2 ^ (64 - off) := ⟨_, rfl⟩
  have hXQ : X < 2 ^ (32 - off) := by rw [hX]; exact Nat.div_lt_of_lt_mul (by rw [← hBP]; exact hx0)
  have h64 : 2 ^ (64 - off) = 2 ^ (32 - off) * 4294967296 := by rw [show 64 - off = (32 - off) + 32 by omega, Nat.pow_add]
  have hXY : X + Y < 2 ^ (64 - off) := by
    rw [h64, hY]
    have h1 : 2 ^ (32 - off) * (y + 1) ≤ 2 ^ (32 - off) * 4294967296 := Nat.mul_le_mul_left _ hy0
    rw [Nat.mul_add, Nat.mul_one, Nat.mul_comm _ y] at h1
    omega
  have hT : 2 ^ (64 - off) * 2 ^ off = 18446744073709551616 := by rw [← Nat.pow_add, show 64 - off + off = 64 by omega]
  have hXYZ : X + Y + Z < 18446744073709551616 := by
    have h1 : 2 ^ (64 - off) * (z % 2 ^ off + 1) ≤ 2 ^ (64 - off) * 2 ^ off := Nat.mul_le_mul_left _ (Nat.mod_lt _ (Nat.two_pow_pos off))
    rw [hT, Nat.mul_add, Nat.mul_one, Nat.mul_comm _ (z % 2 ^ off), ← hZ] at h1
    omega
  obtain ⟨r, hr⟩ : ∃ r, r = 32 - off := ⟨_, rfl⟩
  have er : (32 : Int) - (off : Int) = (r : Int) := by omega
  obtain ⟨R, hR⟩ : ∃ R, R = 64 - off := ⟨_, rfl⟩
  have eR : (64 : Int) - (off : Int) = (R : Int) := by omega
  have f_1 : (x : Int) / 2 ^ off = (X : Int) := by rw [hX]; simp
  have e_1 := shr_eq (x := x) (off := off) (X := X) (by omega) hX
  have e_2 := shl_eq (y := y) (r := r) (Y := Y) (by omega) (by rw [hr, ← hY]; exact (Nat.mod_eq_of_lt (by omega)).symm)
  have e_3 := shl_eq (y := z) (r := R) (Y := Z) (by omega) (by
    rw [hR, hZ, ← hT, Nat.mul_comm z, Nat.mul_mod_mul_left, Nat.mul_comm])
  have o1 : bits BinOp.or IntKind.u64 (X : Int) (Y : Int) = ((X + Y : Nat) : Int) := by rw [hY]; exact or_add hXQ (by rw [← hY]; omega)
  have o2 : bits BinOp.or IntKind.u64 ((X + Y : Nat) : Int) (Z : Int) = ((X + Y + Z : Nat) : Int) := by rw [hZ]; exact or_add hXY (by rw [← hZ]; exact hXYZ)
  obtain ⟨XY, hXYe⟩ : ∃ XY, XY = X + Y := ⟨_, rfl⟩
  obtain ⟨XYZ, hXYZe⟩ : ∃ XYZ, XYZ = X + Y + Z := ⟨_, rfl⟩
  rw [← hXYe] at o1 o2
  rw [hXYe, ← hXYZe, ← hXYe] at o2
  have HRES : Hid (val xs / 2 ^ n % 18446744073709551616 = XYZ) := by
    show _ = _
    rw [HM.out, hXYZe, hX, hY, hZ, h64, Nat.mul_comm (2 ^ (32 - off)) y, Nat.mul_comm (z % 2 ^ off)]
  obtain ⟨len, hlen⟩ : ∃ len, len = xs.length := ⟨_, rfl⟩
  rw [← hlen] at HL0 HL1 HL2 ⊢
  clear hlen hs1 hs2 hX hY hZ hXQ h64 hXY hT hXYZ hXYe hXYZe hQ hP hBP ht HM hs ho hr hR h
  go_enter Tryz.func137, Tryz.ntmps137
  go_wp2
  have p1 : (0 : Int) ≤ (off : Int) := by omega
  have q1 : ¬ (off : Int) < 0 := by omega
  have q2 : ¬ (r : Int) < 0 := by omega
  have q3 : ¬ (R : Int) < 0 := by omega
  have wa : IntKind.i64.wrap ((s : Int) + 1) = (s1 : Int) := by rw [IntKind.wrap_i64]; omega
  have wb : IntKind.i64.wrap ((s : Int) + 2) = (s2 : Int) := by rw [IntKind.wrap_i64]; omega
  have wr : IntKind.i64.wrap (32 - (off : Int)) = (r : Int) := by rw [IntKind.wrap_i64]; omega
  have wR : IntKind.i64.wrap (64 - (off : Int)) = (R : Int) := by rw [IntKind.wrap_i64]; omega
  clear ea eb er eR
  refine region_late [] (by kernel_rfl) ?_
  have hHeld : AllL w.drew [] := trivial
  refine late_fr 0 (v := .slice ao len cap) rfl (Or.inl ⟨by rfl, ?_⟩) hHeld ?_
  · (intro u _; go_simp)
  (try simp only [Act.put, putA, putB, putC])
  refine late_fr 1 (v := .int .i64 (s : Int)) rfl (Or.inl ⟨by rfl, ?_⟩) hHeld ?_
  · (intro u _; go_simp)
  (try simp only [Act.put, putA, putB, putC])
  refine late_fr 3 (v := .int .i64 (off : Int)) rfl (Or.inl ⟨by rfl, ?_⟩) hHeld ?_
  · (intro u _; go_simp)
  (try simp only [Act.put, putA, putB, putC])
  refine late_fr 5 (v := .slice ao len cap) rfl (Or.inl ⟨by rfl, ?_⟩) hHeld ?_
  · (intro u _; go_simp)
  (try simp only [Act.put, putA, putB, putC])
  refine late_fr 6 (v := .int .i64 (s : Int)) rfl (Or.inl ⟨by rfl, ?_⟩) hHeld ?_
  · (intro u _; go_simp)
  (try simp only [Act.put, putA, putB, putC])
  refine late_fr 7 (v := .int .i64 (s1 : Int)) rfl (Or.inl ⟨by rfl, ?_⟩) hHeld ?_
  · (intro u _; go_simp)
  (try simp only [Act.put, putA, putB, putC])
  refine late_fr 9 (v := .int .i64 (off : Int)) rfl (Or.inl ⟨by rfl, ?_⟩) hHeld ?_
  · (intro u _; go_simp)
  (try simp only [Act.put, putA, putB, putC])
  refine late_fr 10 (v := .int .i64 (r : Int)) rfl (Or.inl ⟨by rfl, ?_⟩) hHeld ?_
  · (intro u _; go_simp)
  (try simp only [Act.put, putA, putB, putC])
  refine late_fr 13 (v := .slice ao len cap) rfl (Or.inl ⟨by rfl, ?_⟩) hHeld ?_
  · (intro u _; go_simp)
  (try simp only [Act.put, putA, putB, putC])
  refine late_fr 14 (v := .int .i64 (s : Int)) rfl (Or.inl ⟨by rfl, ?_⟩) hHeld ?_
  · (intro u _; go_simp)
  (try simp only [Act.put, putA, putB, putC])
  refine late_fr 15 (v := .int .i64 (s2 : Int)) rfl (Or.inl ⟨by rfl, ?_⟩) hHeld ?_
  · (intro u _; go_simp)
  (try simp only [Act.put, putA, putB, putC])
  refine late_fr 17 (v := .int .i64 (off : Int)) rfl (Or.inl ⟨by rfl, ?_⟩) hHeld ?_
  · (intro u _; go_simp)
  (try simp only [Act.put, putA, putB, putC])
  refine late_fr 18 (v := .int .i64 (R : Int)) rfl (Or.inl ⟨by rfl, ?_⟩) hHeld ?_
  · (intro u _; go_simp)
  (try simp only [Act.put, putA, putB, putC])
  refine late_st 2 rfl (fun K hK => ?_)
  go_simp
  refine (HL0.out w.drew rfl).mono ?_
  rintro e w' ⟨rfl, rfl⟩
  go_wp2_with fail
  refine hK.out _ _ (AllL.kept hHeld) ?_
  clear hK K
  (try simp only [Act.put, putA, putB, putC])
  refine late_fr 4 (v := .int .u64 (X : Int)) rfl (Or.inl ⟨by rfl, ?_⟩) hHeld ?_
  · (intro u _; go_simp)
  (try simp only [Act.put, putA, putB, putC])
  refine late_st 8 rfl (fun K hK => ?_)
  go_simp
  refine (HL1.out w.drew rfl).mono ?_
  rintro e w' ⟨rfl, rfl⟩
  go_wp2_with fail
  refine hK.out _ _ (AllL.kept hHeld) ?_
  clear hK K
  (try simp only [Act.put, putA, putB, putC])
  refine late_fr 11 (v := .int .u64 (Y : Int)) rfl (Or.inl ⟨by rfl, ?_⟩) hHeld ?_
  · (intro u _; go_simp)
  (try simp only [Act.put, putA, putB, putC])
  refine late_fr 12 (v := .int .u64 (XY : Int)) rfl (Or.inl ⟨by rfl, ?_⟩) hHeld ?_
  · (intro u _; go_simp)
  (try simp only [Act.put, putA, putB, putC])
  refine late_st 16 rfl (fun K hK => ?_)
  go_simp
  refine (HL2.out w.drew rfl).mono ?_
  rintro e w' ⟨rfl, rfl⟩
  go_wp2_with fail
  refine hK.out _ _ (AllL.kept hHeld) ?_
  clear hK K
  (try simp only [Act.put, putA, putB, putC])
  refine late_fr 19 (v := .int .u64 (Z : Int)) rfl (Or.inl ⟨by rfl, ?_⟩) hHeld ?_
  · (intro u _; go_simp)
  (try simp only [Act.put, putA, putB, putC])
  refine late_fr 20 (v := .int .u64 (XYZ : Int)) rfl (Or.inl ⟨by rfl, ?_⟩) hHeld ?_
  · (intro u _; go_simp)
  (try simp only [Act.put, putA, putB, putC])
  refine late_st 21 rfl (fun K hK => ?_)
  go_simp
  refine hK.out _ _ trivial ?_
  clear hK K
  (try simp only [Act.put, putA, putB, putC])
  refine late_done (by kernel_rfl) ?_ _
  go_wp2
  go_ret
  exact ⟨by rw [HRES.out]; rfl, 1, rfl⟩
end Go.Proofs.YtfnafgjnimfmjaaGreatDoor
