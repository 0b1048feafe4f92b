/-
  Proved here: plain facts on the simplest fraction between two: it lies there, it is in lowest terms, and none there has a lesser number above or below its line.
  Proved here: plain facts on the simplest fraction between two, as fractions: how it is found by the floor of the lower one.
-/
import Derived.Test.YtdfmmaehmngkhaaDoorWinMathAll
namespace Go.Proofs.YtdfmmaehmngkhaaDoor

/-- The simplest fraction from p over q to r over s, which are above 0. -/
def btw : Nat → Nat → Nat → Nat → Nat → Nat × Nat
  | 0, p, q, _, _ => (p / q, 1)
  | k + 1, p, q, r, s =>
    if p % q = 0 then (p / q, 1)
    else if p / q < r / s then (p / q + 1, 1)
    else (p / q * (btw k s (r % s) q (p % q)).1 + (btw k s (r % s) q (p % q)).2, (btw k s (r % s) q (p % q)).1)
theorem btw_int (k p q r s : Nat) (h : p % q = 0) : btw k p q r s = (p / q, 1) := by
  cases k with
  | zero => rfl
  | succ k => unfold btw; rw [if_pos h]
theorem btw_next (k p q r s : Nat) (h : p % q ≠ 0) (h2 : p / q < r / s) : btw (k + 1) p q r s = (p / q + 1, 1) := by
  unfold btw; rw [if_neg h, if_pos h2]
theorem btw_step (k p q r s : Nat) (h : p % q ≠ 0) (h2 : ¬ p / q < r / s) : btw (k + 1) p q r s = (p / q * (btw k s (r % s) q (p % q)).1 + (btw k s (r % s) q (p % q)).2, (btw k s (r % s) q (p % q)).1) := by
  conv => lhs; unfold btw
  rw [if_neg h, if_neg h2]
theorem dm_mul {q n a : Nat} (s : Nat) : (q * n + a) * s = n * (q * s) + a * s := by
  rw [Nat.add_mul, Nat.mul_comm q n, Nat.mul_assoc]
/-- Where no whole number lies between: both have one first term, and what is left of both is not 0. -/
theorem btw_rest {p q r s : Nat} (hq : 0 < q) (hs : 0 < s) (hle : p * s ≤ r * q) (h : p % q ≠ 0) (h2 : ¬ p / q < r / s) : r / s = p / q ∧ 0 < r % s ∧ s * (p % q) ≤ q * (r % s) := by
  have e1 := Nat.div_add_mod p q
  have e2 := Nat.div_add_mod r s
  have hb := Nat.mod_lt r hs
  have hm : r / s ≤ p / q := Nat.le_of_not_lt h2
  have hpa : 0 < p % q := Nat.pos_of_ne_zero h
  clear h h2
  generalize p / q = n at *
  generalize r / s = m at *
  generalize p % q = a at *
  generalize r % s = b at *
  subst e1 e2
  rw [dm_mul, dm_mul, Nat.mul_comm s q] at hle
  have hz : 0 < q * s := Nat.mul_pos hq hs
  have hbq : b * q < q * s := by rw [Nat.mul_comm q s]; exact Nat.mul_lt_mul_of_pos_right hb hq
  have has : 0 < a * s := Nat.mul_pos hpa hs
  rcases Nat.lt_or_ge m n with hlt | hge
  · have h3 : (m + 1) * (q * s) ≤ n * (q * s) := Nat.mul_le_mul_right _ hlt
    rw [Nat.add_mul, Nat.one_mul] at h3
    omega
  · have : m = n := Nat.le_antisymm hm hge
    subst this
    have h4 : a * s ≤ b * q := by omega
    refine ⟨rfl, ?_, by rw [Nat.mul_comm s a, Nat.mul_comm q b]; exact h4⟩
    rcases Nat.eq_zero_or_pos b with h0 | h0
    · rw [h0, Nat.zero_mul] at h4; omega
    · exact h0
/-- What the simplest fraction is. -/
structure Simp (p q r s x y : Nat) : Prop where
  pos : 0 < y
  low : p * y ≤ x * q
  high : x * s ≤ r * y
  least : ∀ e f, 0 < f → p * f ≤ e * q → e * s ≤ r * f → x ≤ e ∧ y ≤ f
  co : Nat.gcd x y = 1
theorem btw_simp : ∀ k p q r s, 0 < p → 0 < q → 0 < s → p * s ≤ r * q → q + s ≤ k → Simp p q r s (btw k p q r s).1 (btw k p q r s).2
  | 0, _, _, _, _, _, hq, _, _, hk => by omega
  | k + 1, p, q, r, s, hp, hq, hs, hle, hk => by
    have e1 := Nat.div_add_mod p q
    by_cases h : p % q = 0
    · rw [btw_int _ _ _ _ _ h]
      rw [h, Nat.add_zero] at e1
      generalize p / q = n at *
      refine ⟨Nat.one_pos, ?_, ?_, fun e f hf h1 _ => ⟨?_, hf⟩, Nat.gcd_one_right _⟩
      · rw [Nat.mul_one, ← e1, Nat.mul_comm q n]; exact Nat.le_refl _
      · rw [Nat.mul_one]
        rw [← e1, Nat.mul_assoc, Nat.mul_comm r q] at hle
        exact Nat.le_of_mul_le_mul_left hle hq
      · rw [← e1, Nat.mul_assoc, Nat.mul_comm e q] at h1
        exact Nat.le_trans (Nat.le_mul_of_pos_right n hf) (Nat.le_of_mul_le_mul_left h1 hq)
    · by_cases h2 : p / q < r / s
      · rw [btw_next _ _ _ _ _ h h2]
        have hpa : 0 < p % q := Nat.pos_of_ne_zero h
        have hb := Nat.mod_lt p hq
        have e2 := Nat.div_add_mod r s
        generalize p / q = n at *
        generalize p % q = a at *
        refine ⟨Nat.one_pos, ?_, ?_, fun e f hf h1 _ => ⟨?_, hf⟩, Nat.gcd_one_right _⟩
        · rw [Nat.mul_one, Nat.add_mul, Nat.one_mul, Nat.mul_comm n q]; omega
        · rw [Nat.mul_one]
          show (n + 1) * s ≤ r
          have : (n + 1) * s ≤ r / s * s := Nat.mul_le_mul_right _ h2
          rw [Nat.mul_comm (r / s) s] at this
          omega
        · have h3 : 0 < a * f := Nat.mul_pos hpa hf
          rw [← e1, dm_mul] at h1
          have h4 : q * (n * f) < q * e := by
            have x1 : n * (q * f) = q * (n * f) := Nat.mul_left_comm _ _ _
            have x2 : e * q = q * e := Nat.mul_comm _ _
            omega
          have h5 : n * f < e := Nat.lt_of_mul_lt_mul_left h4
          have h6 : n ≤ n * f := Nat.le_mul_of_pos_right n hf
          show n + 1 ≤ e
          omega
      · obtain ⟨hm, hb0, hle2⟩ := btw_rest hq hs hle h h2
        rw [btw_step _ _ _ _ _ h h2]
        have hpa : 0 < p % q := Nat.pos_of_ne_zero h
        have hb := Nat.mod_lt p hq
        have hb2 := Nat.mod_lt r hs
        have IH := btw_simp k s (r % s) q (p % q) hs hb0 hpa hle2 (by omega)
        have e2 := Nat.div_add_mod r s
        rw [hm] at e2
        generalize btw k s (r % s) q (p % q) = xy at *
        obtain ⟨x, y⟩ := xy
        simp only at IH ⊢
        obtain ⟨i1, i2, i3, i4, i5⟩ := IH
        have hx : 0 < x := by
          rcases Nat.eq_zero_or_pos x with h0 | h0
          · rw [h0, Nat.zero_mul] at i2
            have : 0 < s * y := Nat.mul_pos hs i1
            omega
          · exact h0
        clear h h2 hm hle
        generalize p / q = n at *
        generalize p % q = a at *
        generalize r % s = b at *
        subst e1 e2
        refine ⟨hx, ?_, ?_, fun e f hf h1 h3 => ?_, ?_⟩
        · rw [dm_mul, Nat.add_mul]
          have x1 : n * (q * x) = n * x * q := by rw [Nat.mul_comm q x, Nat.mul_assoc]
          have x2 : a * x = x * a := Nat.mul_comm _ _
          have x3 : y * q = q * y := Nat.mul_comm _ _
          omega
        · rw [dm_mul (q := s) (n := n) (a := b), Nat.add_mul]
          have x1 : n * (s * x) = n * x * s := by rw [Nat.mul_comm s x, Nat.mul_assoc]
          have x2 : b * x = x * b := Nat.mul_comm _ _
          have x3 : y * s = s * y := Nat.mul_comm _ _
          omega
        · rw [dm_mul] at h1 h3
          have hnf : n * f ≤ e := by
            have x1 : n * (q * f) = q * (n * f) := Nat.mul_left_comm _ _ _
            have x2 : e * q = q * e := Nat.mul_comm _ _
            exact Nat.le_of_mul_le_mul_left (show q * (n * f) ≤ q * e by omega) hq
          obtain ⟨g, rfl⟩ := Nat.exists_eq_add_of_le hnf
          rw [Nat.add_mul] at h1 h3
          have y1 : n * (q * f) = n * f * q := by rw [Nat.mul_comm q f, Nat.mul_assoc]
          have y2 : n * (s * f) = n * f * s := by rw [Nat.mul_comm s f, Nat.mul_assoc]
          have hg : 0 < g := by
            rcases Nat.eq_zero_or_pos g with h0 | h0
            · rw [h0, Nat.zero_mul] at h1
              have : 0 < a * f := Nat.mul_pos hpa hf
              omega
            · exact h0
          have z := i4 f g hg (by have a1 : s * g = g * s := Nat.mul_comm _ _; have a2 : f * b = b * f := Nat.mul_comm _ _; omega) (by have a1 : f * a = a * f := Nat.mul_comm _ _; have a2 : q * g = g * q := Nat.mul_comm _ _; omega)
          have : n * x ≤ n * f := Nat.mul_le_mul_left _ z.1
          exact ⟨by omega, z.1⟩
        · rw [Nat.gcd_comm, Nat.gcd_mul_right_add_right]
          exact i5
/-- It is not above any of the two. -/
theorem Simp.le {p q r s x y : Nat} (h : Simp p q r s x y) (hq : 0 < q) (hs : 0 < s) (hle : p * s ≤ r * q) : (x ≤ p ∧ y ≤ q) ∧ x ≤ r ∧ y ≤ s :=
  ⟨h.least p q hq (Nat.le_refl _) hle, h.least r s hs hle (Nat.le_refl _)⟩
theorem Simp.xpos {p q r s x y : Nat} (h : Simp p q r s x y) (hp : 0 < p) : 0 < x := by
  rcases Nat.eq_zero_or_pos x with h0 | h0
  · have h1 := h.low
    rw [h0, Nat.zero_mul] at h1
    have : 0 < p * y := Nat.mul_pos hp h.pos
    omega
  · exact h0
theorem Simp.unique {p q r s x y x' y' : Nat} (h : Simp p q r s x y) (h' : Simp p q r s x' y') : x = x' ∧ y = y' := by
  have h1 := h.least x' y' h'.pos h'.low h'.high
  have h2 := h'.least x y h.pos h.low h.high
  omega
theorem cross_le {p q P Q x y : Nat} (hq : 0 < q) (e : p * Q = P * q) (h : p * y ≤ x * q) : P * y ≤ x * Q := by
  have h1 : p * y * Q ≤ x * q * Q := Nat.mul_le_mul_right _ h
  have e1 : p * y * Q = P * y * q := by rw [Nat.mul_right_comm, e, Nat.mul_right_comm]
  have e2 : x * q * Q = x * Q * q := Nat.mul_right_comm _ _ _
  rw [e1, e2] at h1
  exact Nat.le_of_mul_le_mul_right h1 hq
theorem cross_ge {p q P Q x y : Nat} (hq : 0 < q) (e : p * Q = P * q) (h : x * q ≤ p * y) : x * Q ≤ P * y := by
  have h1 : x * q * Q ≤ p * y * Q := Nat.mul_le_mul_right _ h
  have e1 : p * y * Q = P * y * q := by rw [Nat.mul_right_comm, e, Nat.mul_right_comm]
  have e2 : x * q * Q = x * Q * q := Nat.mul_right_comm _ _ _
  rw [e1, e2] at h1
  exact Nat.le_of_mul_le_mul_right h1 hq
/-- It does not hang on how the two are written. -/
theorem Simp.same {p q r s P Q R S x y : Nat} (hq : 0 < q) (hQ : 0 < Q) (hs : 0 < s) (hS : 0 < S) (e1 : p * Q = P * q) (e2 : r * S = R * s) (h : Simp p q r s x y) : Simp P Q R S x y :=
  ⟨h.pos, cross_le hq e1 h.low, cross_ge hs e2 h.high, fun e f hf h1 h2 => h.least e f hf (cross_le hQ e1.symm h1) (cross_ge hS e2.symm h2), h.co⟩
end Go.Proofs.YtdfmmaehmngkhaaDoor

namespace Go.Proofs.YtdfmmaehmngkhaaDoor

theorem divInt_co {c : Int} {d : Nat} (hd : 0 < d) (h : Nat.gcd c.natAbs d = 1) : (Rat.divInt c d).num = c ∧ (Rat.divInt c d).den = d := by
  obtain ⟨k, hk, e1, e2⟩ := div_parts (p := c) (q := d) (by omega)
  have h1 : k.natAbs ∣ Nat.gcd c.natAbs d := Nat.dvd_gcd (by rw [e1, Int.natAbs_mul]; exact Nat.dvd_mul_left _ _) (by have := congrArg Int.natAbs e2; rw [Int.natAbs_natCast, Int.natAbs_mul] at this; rw [this]; exact Nat.dvd_mul_left _ _)
  rw [h] at h1
  have h2 : k = 1 := by have := Nat.le_of_dvd Nat.one_pos h1; omega
  subst h2
  rw [Int.mul_one] at e1 e2
  exact ⟨e1.symm, by omega⟩
/-- The numbers of the simplest fraction from a to b. -/
def sXY (a b : Rat) : Nat × Nat := btw (a.den + b.den) a.num.natAbs a.den b.num.natAbs b.den
def sQ (a b : Rat) : Rat := Rat.divInt ((sXY a b).1 : Int) ((sXY a b).2 : Int)
/-- The two are above 0, and the first one is not above the second. -/
structure UpTo (a b : Rat) : Prop where
  pos : 0 < a.num
  le : a.num * b.den ≤ b.num * a.den
theorem UpTo.pos2 {a b : Rat} (h : UpTo a b) : 0 < b.num := by
  have h1 : 0 < a.num * (b.den : Int) := Int.mul_pos h.pos (by have := b.den_pos; omega)
  have h2 : 0 < b.num * (a.den : Int) := Int.lt_of_lt_of_le h1 h.le
  exact Int.pos_of_mul_pos_left h2 (by have := a.den_pos; omega)
theorem UpTo.nat {a b : Rat} (h : UpTo a b) : 0 < a.num.natAbs ∧ 0 < b.num.natAbs ∧ a.num.natAbs * b.den ≤ b.num.natAbs * a.den := by
  have h1 := h.pos
  have h2 := h.pos2
  refine ⟨by omega, by omega, ?_⟩
  have e1 : ((a.num.natAbs : Nat) : Int) = a.num := by omega
  have e2 : ((b.num.natAbs : Nat) : Int) = b.num := by omega
  have := h.le
  rw [← e1, ← e2] at this
  exact_mod_cast this
theorem UpTo.simp {a b : Rat} (h : UpTo a b) : Simp a.num.natAbs a.den b.num.natAbs b.den (sXY a b).1 (sXY a b).2 := btw_simp _ _ _ _ _ h.nat.1 a.den_pos b.den_pos h.nat.2.2 (Nat.le_refl _)
theorem UpTo.parts {a b : Rat} (h : UpTo a b) : (sQ a b).num = (sXY a b).1 ∧ (sQ a b).den = (sXY a b).2 := divInt_co h.simp.pos (by rw [Int.natAbs_natCast]; exact h.simp.co)
end Go.Proofs.YtdfmmaehmngkhaaDoor
