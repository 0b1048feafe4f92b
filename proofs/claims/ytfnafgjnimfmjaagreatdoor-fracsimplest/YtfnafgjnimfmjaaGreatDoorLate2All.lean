/-
  Proved here: plain facts on the simplest fraction between two: it lies there, it is in lowest terms, and none there has a lesser number above or below its line.
  Proved here: plain facts on the simplest fraction between two, as fractions: how it is found by the floor of the lower one.
  Proved here: plain facts on a region that leaves its order open: what is read may be read first, though later operations of the region write there. No condition.
-/
import Derived.Test.YtfnafgjnimfmjaaGreatDoorWindowAll
import Derived.Test.YtfnafgjnimfmjaaGreatDoorTrimAll
import Derived.Deep.RegionHeld3
namespace Go.Proofs.YtfnafgjnimfmjaaGreatDoor

/-- The simplest fraction from p over q to r over s, which are above 0. -/
def btw : Nat → Nat → Nat → Nat → Nat → Nat × Nat
  | 0, p, q, _, _ => (p / q, 1)
  | k + 1, p, q, r, s =>
    if p % q = 0 then (p / q, 1)
    else if p / q < r / s then (p / q + 1, 1)
    else (p / q * (btw k s (r % s) q (p % q)).1 + (btw k s (r % s) q (p % q)).2, (btw k s (r % s) q (p % q)).1)
theorem btw_int (k p q r s : Nat) (h : p % q = 0) : btw k p q r s = (p / q, 1) := by
  cases k with
  | zero => rfl
  | succ k => unfold btw; rw [if_pos h]
theorem btw_next (k p q r s : Nat) (h : p % q ≠ 0) (h2 : p / q < r / s) : btw (k + 1) p q r s = (p / q + 1, 1) := by
  unfold btw; rw [if_neg h, if_pos h2]
theorem btw_step (k p q r s : Nat) (h : p % q ≠ 0) (h2 : ¬ p / q < r / s) : btw (k + 1) p q r s = (p / q * (btw k s (r % s) q (p % q)).1 + (btw k s (r % s) q (p % q)).2, (btw k s (r % s) q (p % q)).1) := by
  conv => lhs; unfold btw
  rw [if_neg h, if_neg h2]
theorem dm_mul {q n a : Nat} (s : Nat) : (q * n + a) * s = n * (q * s) + a * s := by
  rw [Nat.add_mul, Nat.mul_comm q n, Nat.mul_assoc]
/-- Where no whole number lies between: both have one first term, and what is left of both is not 0. -/
theorem btw_rest {p q r s : Nat} (hq : 0 < q) (hs : 0 < s) (hle : p * s ≤ r * q) (h : p % q ≠ 0) (h2 : ¬ p / q < r / s) : r / s = p / q ∧ 0 < r % s ∧ s * (p % q) ≤ q * (r % s) := by
  have e1 := Nat.div_add_mod p q
  have e2 := Nat.div_add_mod r s
  have hb := Nat.mod_lt r hs
  have hm : r / s ≤ p / q := Nat.le_of_not_lt h2
  have hpa : 0 < p % q := Nat.pos_of_ne_zero h
  clear h h2
  generalize p / q = n at *
  generalize r / s = m at *
  generalize p % q = a at *
  generalize r % s = b at *
  subst e1 e2
  rw [dm_mul, dm_mul, Nat.mul_comm s q] at hle
  have hz : 0 < q * s := Nat.mul_pos hq hs
  have hbq : b * q < q * s := by rw [Nat.mul_comm q s]; exact Nat.mul_lt_mul_of_pos_right hb hq
  have has : 0 < a * s := Nat.mul_pos hpa hs
  rcases Nat.lt_or_ge m n with hlt | hge
  · have h3 : (m + 1) * (q * s) ≤ n * (q * s) := Nat.mul_le_mul_right _ hlt
    rw [Nat.add_mul, Nat.one_mul] at h3
    omega
  · have : m = n := Nat.le_antisymm hm hge
    subst this
    have h4 : a * s ≤ b * q := by omega
    refine ⟨rfl, ?_, by rw [Nat.mul_comm s a, Nat.mul_comm q b]; exact h4⟩
    rcases Nat.eq_zero_or_pos b with h0 | h0
    · rw [h0, Nat.zero_mul] at h4; omega
    · exact h0
/-- What the simplest fraction is. -/
structure Simp (p q r s x y : Nat) : Prop where
  pos : 0 < y
  low : p * y ≤ x * q
  high : x * s ≤ r * y
  least : ∀ e f, 0 < f → p * f ≤ e * q → e * s ≤ r * f → x ≤ e ∧ y ≤ f
  co : Nat.gcd x y = 1
theorem btw_simp : ∀ k p q r s, 0 < p → 0 < q → 0 < s → p * s ≤ r * q → q + s ≤ k → Simp p q r s (btw k p q r s).1 (btw k p q r s).2
  | 0, _, _, _, _, _, hq, _, _, hk => by omega
  | k + 1, p, q, r, s, hp, hq, hs, hle, hk => by
    have e1 := Nat.div_add_mod p q
    by_cases h : p % q = 0
    · rw [btw_int _ _ _ _ _ h]
      rw [h, Nat.add_zero] at e1
      generalize p / q = n at *
      refine ⟨Nat.one_pos, ?_, ?_, fun e f hf h1 _ => ⟨?_, hf⟩, Nat.gcd_one_right _⟩
      · rw [Nat.mul_one, ← e1, Nat.mul_comm q n]; exact Nat.le_refl _
      · rw [Nat.mul_one]
        rw [← e1, Nat.mul_assoc, Nat.mul_comm r q] at hle
        exact Nat.le_of_mul_le_mul_left hle hq
      · rw [← e1, Nat.mul_assoc, Nat.mul_comm e q] at h1
        exact Nat.le_trans (Nat.le_mul_of_pos_right n hf) (Nat.le_of_mul_le_mul_left h1 hq)
    · by_cases h2 : p / q < r / s
      · rw [btw_next _ _ _ _ _ h h2]
        have hpa : 0 < p % q := Nat.pos_of_ne_zero h
        have hb := Nat.mod_lt p hq
        have e2 := Nat.div_add_mod r s
        generalize p / q = n at *
        generalize p % q = a at *
        refine ⟨Nat.one_pos, ?_, ?_, fun e f hf h1 _ => ⟨?_, hf⟩, Nat.gcd_one_right _⟩
        · rw [Nat.mul_one, Nat.add_mul, Nat.one_mul, Nat.mul_comm n q]; omega
        · rw [Nat.mul_one]
          show (n + 1) * s ≤ r
          have : (n + 1) * s ≤ r / s * s := Nat.mul_le_mul_right _ h2
          rw [Nat.mul_comm (r / s) s] at this
          omega
        · have h3 : 0 < a * f := Nat.mul_pos hpa hf
          rw [← e1, dm_mul] at h1
          have h4 : q * (n * f) < q * e := by
            have x1 : n * (q * f) = q * (n * f) := Nat.mul_left_comm _ _ _
            have x2 : e * q = q * e := Nat.mul_comm _ _
            omega
          have h5 : n * f < e := Nat.lt_of_mul_lt_mul_left h4
          have h6 : n ≤ n * f := Nat.le_mul_of_pos_right n hf
          show n + 1 ≤ e
          omega
      · obtain ⟨hm, hb0, hle2⟩ := btw_rest hq hs hle h h2
        rw [btw_step _ _ _ _ _ h h2]
        have hpa : 0 < p % q := Nat.pos_of_ne_zero h
        have hb := Nat.mod_lt p hq
        have hb2 := Nat.mod_lt r hs
        have IH := btw_simp k s (r % s) q (p % q) hs hb0 hpa hle2 (by omega)
        have e2 := Nat.div_add_mod r s
        rw [hm] at e2
        generalize btw k s (r % s) q (p % q) = xy at *
        obtain ⟨x, y⟩ := xy
        simp only at IH ⊢
        obtain ⟨i1, i2, i3, i4, i5⟩ := IH
        have hx : 0 < x := by
          rcases Nat.eq_zero_or_pos x with h0 | h0
          · rw [h0, Nat.zero_mul] at i2
            have : 0 < s * y := Nat.mul_pos hs i1
            omega
          · exact h0
        clear h h2 hm hle
        generalize p / q = n at *
        generalize p % q = a at *
        generalize r % s = b at *
        subst e1 e2
        refine ⟨hx, ?_, ?_, fun e f hf h1 h3 => ?_, ?_⟩
        · rw [dm_mul, Nat.add_mul]
          have x1 : n * (q * x) = n * x * q := by rw [Nat.mul_comm q x, Nat.mul_assoc]
          have x2 : a * x = x * a := Nat.mul_comm _ _
          have x3 : y * q = q * y := Nat.mul_comm _ _
          omega
        · rw [dm_mul (q := s) (n := n) (a := b), Nat.add_mul]
          have x1 : n * (s * x) = n * x * s := by rw [Nat.mul_comm s x, Nat.mul_assoc]
          have x2 : b * x = x * b := Nat.mul_comm _ _
          have x3 : y * s = s * y := Nat.mul_comm _ _
          omega
        · rw [dm_mul] at h1 h3
          have hnf : n * f ≤ e := by
            have x1 : n * (q * f) = q * (n * f) := Nat.mul_left_comm _ _ _
            have x2 : e * q = q * e := Nat.mul_comm _ _
            exact Nat.le_of_mul_le_mul_left (show q * (n * f) ≤ q * e by omega) hq
          obtain ⟨g, rfl⟩ := Nat.exists_eq_add_of_le hnf
          rw [Nat.add_mul] at h1 h3
          have y1 : n * (q * f) = n * f * q := by rw [Nat.mul_comm q f, Nat.mul_assoc]
          have y2 : n * (s * f) = n * f * s := by rw [Nat.mul_comm s f, Nat.mul_assoc]
          have hg : 0 < g := by
            rcases Nat.eq_zero_or_pos g with h0 | h0
            · rw [h0, Nat.zero_mul] at h1
              have : 0 < a * f := Nat.mul_pos hpa hf
              omega
            · exact h0
          have z := i4 f g hg (by have a1 : s * g = g * s := Nat.mul_comm _ _; have a2 : f * b = b * f := Nat.mul_comm _ _; omega) (by have a1 : f * a = a * f := Nat.mul_comm _ _; have a2 : q * g = g * q := Nat.mul_comm _ _; omega)
          have : n * x ≤ n * f := Nat.mul_le_mul_left _ z.1
          exact ⟨by omega, z.1⟩
        · rw [Nat.gcd_comm, Nat.gcd_mul_right_add_right]
          exact i5
/-- It is not above any of the two. -/
theorem Simp.le {p q r s x y : Nat} (h : Simp p q r s x y) (hq : 0 < q) (hs : 0 < s) (hle : p * s ≤ r * q) : (x ≤ p ∧ y ≤ q) ∧ x ≤ r ∧ y ≤ s :=
  ⟨h.least p q hq (Nat.le_refl _) hle, h.least r s hs hle (Nat.le_refl _)⟩
theorem Simp.xpos {p q r s x y : Nat} (h : Simp p q r s x y) (hp : 0 < p) : 0 < x := by
  rcases Nat.eq_zero_or_pos x with h0 | h0
  · have h1 := h.low
    rw [h0, Nat.zero_mul] at h1
    have : 0 < p * y := Nat.mul_pos hp h.pos
    omega
  · exact h0
theorem Simp.unique {p q r s x y x' y' : Nat} (h : Simp p q r s x y) (h' : Simp p q r s x' y') : x = x' ∧ y = y' := by
  have h1 := h.least x' y' h'.pos h'.low h'.high
  have h2 := h'.least x y h.pos h.low h.high
  omega
theorem cross_le {p q P Q x y : Nat} (hq : 0 < q) (e : p * Q = P * q) (h : p * y ≤ x * q) : P * y ≤ x * Q := by
  have h1 : p * y * Q ≤ x * q * Q := Nat.mul_le_mul_right _ h
  have e1 : p * y * Q = P * y * q := by rw [Nat.mul_right_comm, e, Nat.mul_right_comm]
  have e2 : x * q * Q = x * Q * q := Nat.mul_right_comm _ _ _
  rw [e1, e2] at h1
  exact Nat.le_of_mul_le_mul_right h1 hq
theorem cross_ge {p q P Q x y : Nat} (hq : 0 < q) (e : p * Q = P * q) (h : x * q ≤ p * y) : x * Q ≤ P * y := by
  have h1 : x * q * Q ≤ p * y * Q := Nat.mul_le_mul_right _ h
  have e1 : p * y * Q = P * y * q := by rw [Nat.mul_right_comm, e, Nat.mul_right_comm]
  have e2 : x * q * Q = x * Q * q := Nat.mul_right_comm _ _ _
  rw [e1, e2] at h1
  exact Nat.le_of_mul_le_mul_right h1 hq
/-- It does not hang on how the two are written. -/
theorem Simp.same {p q r s P Q R S x y : Nat} (hq : 0 < q) (hQ : 0 < Q) (hs : 0 < s) (hS : 0 < S) (e1 : p * Q = P * q) (e2 : r * S = R * s) (h : Simp p q r s x y) : Simp P Q R S x y :=
  ⟨h.pos, cross_le hq e1 h.low, cross_ge hs e2 h.high, fun e f hf h1 h2 => h.least e f hf (cross_le hQ e1.symm h1) (cross_ge hS e2.symm h2), h.co⟩
end Go.Proofs.YtfnafgjnimfmjaaGreatDoor

namespace Go.Proofs.YtfnafgjnimfmjaaGreatDoor

theorem divInt_co {c : Int} {d : Nat} (hd : 0 < d) (h : Nat.gcd c.natAbs d = 1) : (Rat.divInt c d).num = c ∧ (Rat.divInt c d).den = d := by
  obtain ⟨k, hk, e1, e2⟩ := div_parts (p := c) (q := d) (by omega)
  have h1 : k.natAbs ∣ Nat.gcd c.natAbs d := Nat.dvd_gcd (by rw [e1, Int.natAbs_mul]; exact Nat.dvd_mul_left _ _) (by have := congrArg Int.natAbs e2; rw [Int.natAbs_natCast, Int.natAbs_mul] at this; rw [this]; exact Nat.dvd_mul_left _ _)
  rw [h] at h1
  have h2 : k = 1 := by have := Nat.le_of_dvd Nat.one_pos h1; omega
  subst h2
  rw [Int.mul_one] at e1 e2
  exact ⟨e1.symm, by omega⟩
/-- The numbers of the simplest fraction from a to b. -/
def sXY (a b : Rat) : Nat × Nat := btw (a.den + b.den) a.num.natAbs a.den b.num.natAbs b.den
def sQ (a b : Rat) : Rat := Rat.divInt ((sXY a b).1 : Int) ((sXY a b).2 : Int)
/-- The two are above 0, and the first one is not above the second. -/
structure UpTo (a b : Rat) : Prop where
  pos : 0 < a.num
  le : a.num * b.den ≤ b.num * a.den
theorem UpTo.pos2 {a b : Rat} (h : UpTo a b) : 0 < b.num := by
  have h1 : 0 < a.num * (b.den : Int) := Int.mul_pos h.pos (by have := b.den_pos; omega)
  have h2 : 0 < b.num * (a.den : Int) := Int.lt_of_lt_of_le h1 h.le
  exact Int.pos_of_mul_pos_left h2 (by have := a.den_pos; omega)
theorem UpTo.nat {a b : Rat} (h : UpTo a b) : 0 < a.num.natAbs ∧ 0 < b.num.natAbs ∧ a.num.natAbs * b.den ≤ b.num.natAbs * a.den := by
  have h1 := h.pos
  have h2 := h.pos2
  refine ⟨by omega, by omega, ?_⟩
  have e1 : ((a.num.natAbs : Nat) : Int) = a.num := by omega
  have e2 : ((b.num.natAbs : Nat) : Int) = b.num := by omega
  have := h.le
  rw [← e1, ← e2] at this
  exact_mod_cast this
theorem UpTo.simp {a b : Rat} (h : UpTo a b) : Simp a.num.natAbs a.den b.num.natAbs b.den (sXY a b).1 (sXY a b).2 := btw_simp _ _ _ _ _ h.nat.1 a.den_pos b.den_pos h.nat.2.2 (Nat.le_refl _)
theorem UpTo.parts {a b : Rat} (h : UpTo a b) : (sQ a b).num = (sXY a b).1 ∧ (sQ a b).den = (sXY a b).2 := divInt_co h.simp.pos (by rw [Int.natAbs_natCast]; exact h.simp.co)
theorem sQ_int {a b : Rat} (h0 : a.num.natAbs % a.den = 0) : sQ a b = Rat.divInt ((a.num.natAbs / a.den : Nat) : Int) 1 := by
  unfold sQ sXY
  rw [btw_int _ _ _ _ _ h0]
  rfl
theorem sQ_next {a b : Rat} (h0 : a.num.natAbs % a.den ≠ 0) (h1 : a.num.natAbs / a.den < b.num.natAbs / b.den) : sQ a b = Rat.divInt ((a.num.natAbs / a.den : Nat) : Int) 1 + Rat.divInt 1 1 := by
  have hd := a.den_pos
  obtain ⟨k, hk⟩ : ∃ k, a.den + b.den = k + 1 := ⟨a.den + b.den - 1, by omega⟩
  rw [Rat.divInt_add_divInt _ _ (by decide) (by decide)]
  unfold sQ sXY
  rw [hk, btw_next _ _ _ _ _ h0 h1]
  simp
theorem one_over {c d : Int} : 1 / Rat.divInt c d = Rat.divInt d c := by rw [Rat.div_def, Rat.one_mul, Rat.inv_divInt]
/-- One over what is left above its floor. -/
theorem turned {b : Rat} {n : Nat} (hb : 0 < b.num) (hn : n = b.num.natAbs / b.den) (h0 : 0 < b.num.natAbs % b.den) :
    1 / (b - Rat.divInt (n : Int) 1) = Rat.divInt (b.den : Int) ((b.num.natAbs % b.den : Nat) : Int) ∧ (1 / (b - Rat.divInt (n : Int) 1)).num = b.den ∧ (1 / (b - Rat.divInt (n : Int) 1)).den = b.num.natAbs % b.den := by
  have hd := b.den_pos
  have e0 := Nat.div_add_mod b.num.natAbs b.den
  have hco : Nat.gcd b.den (b.num.natAbs % b.den) = 1 := by
    have h1 := b.reduced
    unfold Nat.Coprime at h1
    rw [Nat.gcd_comm, Nat.gcd_rec] at h1
    rw [Nat.gcd_comm]
    exact h1
  have e : 1 / (b - Rat.divInt (n : Int) 1) = Rat.divInt (b.den : Int) ((b.num.natAbs % b.den : Nat) : Int) := by
    have e1 : b - Rat.divInt (n : Int) 1 = Rat.divInt ((b.num.natAbs % b.den : Nat) : Int) (b.den : Int) := by
      conv => lhs; lhs; rw [← Rat.num_divInt_den b]
      rw [Rat.divInt_sub_divInt _ _ (by omega) (by decide), Int.mul_one, Int.mul_one]
      congr 1
      rw [← hn] at e0
      have e2 : (n : Int) * (b.den : Int) = ((b.den * n : Nat) : Int) := by rw [Int.natCast_mul, Int.mul_comm]
      rw [e2]
      generalize b.num.natAbs % b.den = M at *
      generalize b.den * n = N at *
      omega
    rw [e1, one_over]
  refine ⟨e, ?_⟩
  rw [e]
  exact divInt_co h0 (by rw [Int.natAbs_natCast]; exact hco)
theorem sQ_rest {a b : Rat} (h : UpTo a b) (h0 : a.num.natAbs % a.den ≠ 0) (h1 : ¬ a.num.natAbs / a.den < b.num.natAbs / b.den) (n : Nat) (hn : n = a.num.natAbs / a.den) (x y : Rat) (hx : x = 1 / (b - Rat.divInt (n : Int) 1)) (hy : y = 1 / (a - Rat.divInt (n : Int) 1)) :
    UpTo x y ∧ x.den + y.den < a.den + b.den ∧ sQ a b = Rat.divInt (n : Int) 1 + 1 / sQ x y ∧ (x.num = b.den ∧ x.den = b.num.natAbs % b.den) ∧ y.num = a.den ∧ y.den = a.num.natAbs % a.den := by
  obtain ⟨n1, n2, n3⟩ := h.nat
  obtain ⟨hm, hb0, hle2⟩ := btw_rest a.den_pos b.den_pos n3 h0 h1
  have ha0 : 0 < a.num.natAbs % a.den := Nat.pos_of_ne_zero h0
  obtain ⟨_, x1, x2⟩ := turned h.pos2 (hn.trans hm.symm) hb0
  obtain ⟨_, y1, y2⟩ := turned h.pos hn ha0
  rw [← hx] at x1 x2
  rw [← hy] at y1 y2
  have hxy : UpTo x y := by
    refine ⟨by rw [x1]; have := b.den_pos; omega, ?_⟩
    rw [x1, x2, y1, y2]
    exact_mod_cast hle2
  have hlt := Nat.mod_lt a.num.natAbs a.den_pos
  have hlt2 := Nat.mod_lt b.num.natAbs b.den_pos
  refine ⟨hxy, by rw [x2, y2]; omega, ?_, ⟨x1, x2⟩, y1, y2⟩
  obtain ⟨k, hk⟩ : ∃ k, a.den + b.den = k + 1 := ⟨a.den + b.den - 1, by have := a.den_pos; omega⟩
  have s1 := btw_simp k b.den (b.num.natAbs % b.den) a.den (a.num.natAbs % a.den) b.den_pos hb0 ha0 hle2 (by omega)
  have s2 := hxy.simp
  rw [x1, x2, y1, y2, Int.natAbs_natCast, Int.natAbs_natCast] at s2
  obtain ⟨u1, u2⟩ := s1.unique s2
  have hX : 0 < (sXY x y).1 := s2.xpos b.den_pos
  unfold sQ
  rw [one_over, Rat.divInt_add_divInt _ _ (by decide) (by omega)]
  have e : sXY a b = (n * (sXY x y).1 + (sXY x y).2, (sXY x y).1) := by
    conv => lhs; unfold sXY
    rw [hk, btw_step _ _ _ _ _ h0 h1, u1, u2, hn]
  rw [e]
  simp
end Go.Proofs.YtfnafgjnimfmjaaGreatDoor

namespace Go.Proofs.YtfnafgjnimfmjaaGreatDoor.L2
open Go.RowKit

section
variable {P : Program} {ops : Array Oper} {Q : Exit → Act → World → Prop} {md : Region.Mode} {S : World → Prop} {L : List (Nat × (World → Prop))}

/-- Number j waits for number i. -/
def pureB : Op → Bool
  | .build .. => true
  | .extract .. => true
  | .move .. => true
  | _ => false
/-- Number j waits for number i, and does more than to put values together. -/
def waitsB (md : Region.Mode) (ops : Array Oper) (j i : Nat) : Bool := match ops[j]? with | some o => !pureB o.op && o.after.any (fun e => Region.binds md e && e.on == i) | none => false
/-- Each condition holds, but where one that waits for its reader is done. -/
def Kept (md : Region.Mode) (ops : Array Oper) (done : Array Bool) (u : World) : List (Nat × (World → Prop)) → Prop
  | [] => True
  | p :: r => ((∃ k, done.getD k false = true ∧ waitsB md ops k p.1 = true) ∨ p.2 u) ∧ Kept md ops done u r
/-- All conditions hold. -/
def AllL (u : World) : List (Nat × (World → Prop)) → Prop
  | [] => True
  | p :: r => p.2 u ∧ AllL u r
theorem Kept.get {done : Array Bool} {u : World} : ∀ {L : List (Nat × (World → Prop))}, Kept md ops done u L → ∀ p ∈ L, (∃ k, done.getD k false = true ∧ waitsB md ops k p.1 = true) ∨ p.2 u
  | [], _, _, h => by cases h
  | q :: r, hk, p, h => by
    rcases List.mem_cons.1 h with h | h
    · rw [h]; exact hk.1
    · exact Kept.get hk.2 p h
theorem Kept.mk' {done : Array Bool} {u : World} : ∀ {L : List (Nat × (World → Prop))}, (∀ p ∈ L, (∃ k, done.getD k false = true ∧ waitsB md ops k p.1 = true) ∨ p.2 u) → Kept md ops done u L
  | [], _ => trivial
  | q :: r, h => ⟨h q (by simp), Kept.mk' fun p hp => h p (by simp [hp])⟩
theorem AllL.get {u : World} : ∀ {L : List (Nat × (World → Prop))}, AllL u L → ∀ p ∈ L, p.2 u
  | [], _, _, h => by cases h
  | q :: r, hk, p, h => by
    rcases List.mem_cons.1 h with h | h
    · rw [h]; exact hk.1
    · exact AllL.get hk.2 p h
theorem AllL.kept {done : Array Bool} {u : World} (h : AllL u L) : Kept md ops done u L := Kept.mk' fun p hp => Or.inr (h.get p hp)
/-- In whatever order: behind each operation what is still to be read stands. -/
def wpLate (P : Program) (md : Region.Mode) (ops : Array Oper) (Q : Exit → Act → World → Prop) (L : List (Nat × (World → Prop))) : Nat → Array Bool → Act → World → Prop
  | 0, done, a, w => Region.ready md ops done = [] ∧ Q .normal a w
  | n + 1, done, a, w => (Region.ready md ops done = [] → Q .normal a w) ∧
      ∀ j ∈ Region.ready md ops done, wpOp P ops Q j (fun b u => Kept md ops (done.setIfInBounds j true) u L ∧ wpLate P md ops Q L n (done.setIfInBounds j true) b u) a w
theorem wpLate.any : ∀ (n : Nat) (done : Array Bool) (a : Act) (w : World), wpLate P md ops Q L n done a w → wpAny P md ops Q n done a w
  | 0, _, _, _, h => h
  | n + 1, _, _, _, h => ⟨h.1, fun j hj => wpOp_mono (fun _ _ k => wpLate.any n _ _ _ k.2) (h.2 j hj)⟩
theorem region_late (L : List (Nat × (World → Prop))) {id : Nat} {a : Act} {w : World} (hm : P.follows .mixedOrders = true) (h : wpLate P .any ops Q L ops.size (Array.replicate ops.size false) a w.drew) : (Code.region id ops true).wp P Q a w :=
  wp_region_any hm (wpLate.any _ _ _ _ h)
theorem waits_no {i j : Nat} {o : Oper} (hj : ops[j]? = some o) (hno : ∀ e ∈ o.after, Region.binds md e = true → e.on ≠ i) : waitsB md ops j i = false := by
  unfold waitsB
  rw [hj]
  cases hc : o.after.any (fun e => Region.binds md e && e.on == i) with
  | false => show (!pureB o.op && o.after.any (fun e => Region.binds md e && e.on == i)) = false; rw [hc, Bool.and_false]
  | true =>
    simp only [Array.any_eq_true', Bool.and_eq_true, beq_iff_eq] at hc
    obtain ⟨e, he, hb, heq⟩ := hc
    exact absurd heq (hno e he hb)
theorem waits_yes {i j : Nat} (h : waitsB md ops j i = true) : ∃ o, ops[j]? = some o ∧ ∃ e ∈ o.after, Region.binds md e = true ∧ e.on = i := by
  unfold waitsB at h
  cases ho : ops[j]? with
  | none => rw [ho] at h; cases h
  | some o =>
    rw [ho] at h
    simp only [Array.any_eq_true', Bool.and_eq_true, beq_iff_eq] at h
    exact ⟨o, rfl, h.2⟩
/-- What is done waits for nothing that is not. -/
def Shut' (md : Region.Mode) (ops : Array Oper) (done : Array Bool) : Prop := ∀ k i, done.getD k false = true → waitsB md ops k i = true → done.getD i false = true
def shutB (md : Region.Mode) (ops : Array Oper) (done : Array Bool) : Bool := (List.range ops.size).all fun k => !done.getD k false || (match ops[k]? with | some o => o.after.all (fun e => !Region.binds md e || done.getD e.on false) | none => true)
theorem shut_of {done : Array Bool} (h : shutB md ops done = true) : Shut' md ops done := by
  intro k i hk hw
  obtain ⟨o, ho, e, he, hb, rfl⟩ := waits_yes hw
  unfold shutB at h
  rw [List.all_eq_true] at h
  have h1 := h k (List.mem_range.2 (Array.getElem?_eq_some_iff.1 ho).1)
  rw [ho, hk] at h1
  simp only [Bool.not_true, Bool.false_or, Array.all_eq_true_iff_forall_mem, Bool.or_eq_true, Bool.not_eq_true'] at h1
  rcases h1 e he with h2 | h2
  · rw [hb] at h2; cases h2
  · exact h2
theorem set_get {done : Array Bool} {i k : Nat} (h : (done.setIfInBounds i true).getD k false = true) : k = i ∨ done.getD k false = true := by
  rcases Nat.decEq i k with hne | he
  · rw [getD_set_ne false hne] at h; exact Or.inr h
  · exact Or.inl he.symm
theorem Shut'.set {done : Array Bool} {j : Nat} (h : Shut' md ops done) (hj : j ∈ Region.ready md ops done) : Shut' md ops (done.setIfInBounds j true) := by
  intro k i hk hw
  apply getD_set_true
  rcases set_get hk with he | hk
  · rw [he] at hw
    obtain ⟨o, ho, e, hem, hb, rfl⟩ := waits_yes hw
    obtain ⟨_, o', ho', hall⟩ := mem_ready.1 hj
    rw [ho] at ho'
    cases ho'
    exact hall e hem hb
  · exact h k i hk hw

theorem late_first {i : Nat} {oi : Oper} {v : Value} (hi : ops[i]? = some oi) (hs : Region.noSelect ops = true) (hL : (i, S) ∈ L ∨ ∀ u, S u) (hn : ∀ p ∈ L, waitsB md ops i p.1 = false) (hii : waitsB md ops i i = false)
    (hQ : ∀ c a w, Q (.panic c) (a.put oi.dst v) w → Q (.panic c) a w) (n : Nat) :
    ∀ (done : Array Bool) (a : Act) (w : World), (∀ j oj, ops[j]? = some oj → j ≠ i → done.getD j true = false → (∀ e ∈ oj.after, Region.binds md e = true → e.on ≠ i) → oi.apart ops oj = true) →
      i ∈ Region.ready md ops done → Shut' md ops done → YieldsIf P ops S oi v a → S w → Kept md ops (done.setIfInBounds i true) w L → wpLate P md ops Q L n (done.setIfInBounds i true) (a.put oi.dst v) w → wpLate P md ops Q L (n + 1) done a w := by
  have hsel := Region.noSelect_spec hs
  induction n with
  | zero =>
    intro done a w _ hr _ hy hS hK H
    constructor
    · intro h; rw [h] at hr; cases hr
    · intro j hj
      rcases Nat.decEq j i with hne | he
      · exact absurd (ready_mono hj hne) (by rw [H.1]; simp)
      · rw [he]; exact hy.wpOp hi hS ⟨hK, H⟩
  | succ n ih =>
    intro done a w hf hr hsh hy hS hK H
    constructor
    · intro h; rw [h] at hr; cases hr
    · intro j hj
      rcases Nat.decEq j i with hne | he
      · obtain ⟨hun, oj, hoj, hall⟩ := mem_ready.1 hj
        have hi0 : done.getD i false = false := by
          have h0 := (mem_ready.1 hr).1
          rw [Array.getD_eq_getD_getElem?] at h0 ⊢
          cases hc : done[i]? with
          | none => rfl
          | some c => rw [hc] at h0; exact h0
        have hno : ∀ e ∈ oj.after, Region.binds md e = true → e.on ≠ i := by
          intro e he hb heq
          have h1 := hall e he hb
          rw [heq, hi0] at h1
          cases h1
        have hjw := waits_no hoj hno
        have k := wpOp_putIf hoj (hf j oj hoj hne hun hno) (fun cs b => hsel i oi cs b hi) (fun cs b => hsel j oj cs b hoj) hQ hy (H.2 j (ready_mono hj hne))
        refine wpOp_mono (fun b u m => ?_) k
        obtain ⟨m1, m2, m3⟩ := m
        have hSu : S u := by
          rcases hL with hL | hL
          case inr => exact hL u
          rcases m2.get (i, S) hL with ⟨p, hp, hpw⟩ | h
          · exfalso
            rcases set_get hp with e1 | hp
            · rw [e1] at hpw
              have h9 : waitsB md ops j i = true := hpw
              rw [hjw] at h9; cases h9
            · rcases set_get hp with e1 | hp
              · rw [e1] at hpw; have h9 : waitsB md ops i i = true := hpw; rw [hii] at h9; cases h9
              · have h9 := hsh p i hp hpw
                rw [hi0] at h9; cases h9
          · exact h
        refine ⟨Kept.mk' fun p hp => ?_, ih _ b u ?_ (ready_mono hr (Ne.symm hne)) (hsh.set hj) m1 hSu ?_ ?_⟩
        · rcases m2.get p hp with ⟨q, hq, hqw⟩ | h
          · left
            refine ⟨q, ?_, hqw⟩
            rw [Array.setIfInBounds_comm _ _ (Ne.symm hne)] at hq
            rcases set_get hq with e1 | hq
            · rw [e1, hn p hp] at hqw; cases hqw
            · exact hq
          · exact Or.inr h
        · intro p op hp hpi hpu hpn
          refine hf p op hp hpi ?_ hpn
          rcases Nat.decEq j p with hjp | hjp
          · rw [getD_set_ne true hjp] at hpu; exact hpu
          · rw [← hjp]; exact hun
        · rw [Array.setIfInBounds_comm _ _ hne]; exact m2
        · rw [Array.setIfInBounds_comm _ _ hne]; exact m3
      · rw [he]; exact hy.wpOp hi hS ⟨hK, H⟩
end

section
variable {P : Program} {l : List Oper} {Q : Exit → Act → World → Prop} {md : Region.Mode} {S : World → Prop} {L : List (Nat × (World → Prop))}
/-- Number i waits for none of the readers. -/
def noneB (md : Region.Mode) (ops : Array Oper) (i : Nat) (rs : List Nat) : Bool := rs.all fun r => !waitsB md ops i r
theorem none_spec {ops : Array Oper} {i : Nat} (hn : noneB md ops i (L.map Prod.fst) = true) (p : Nat × (World → Prop)) (hp : p ∈ L) : waitsB md ops i p.1 = false := by
  unfold noneB at hn
  rw [List.all_eq_true] at hn
  have := hn p.1 (List.mem_map.2 ⟨p, hp, rfl⟩)
  simpa using this
/-- Number i, which hangs on no world, is taken first. -/
theorem late_free (i : Nat) {oi : Oper} {v : Value} {n : Nat} {done : Array Bool} {a : Act} {w : World} (hi : l[i]? = some oi) (hs : Region.noSelect l.toArray = true) (hn : noneB md l.toArray i (L.map Prod.fst) = true) (hii : waitsB md l.toArray i i = false) (hf : Region.free md l.toArray done i = true) (hr : (Region.ready md l.toArray done).contains i = true) (hsh : shutB md l.toArray done = true)
    (hQ : ∀ c a w, Q (.panic c) (a.put oi.dst v) w → Q (.panic c) a w) (hy : YieldsIf P l.toArray (fun _ => True) oi v a) (hA : AllL w L) (h : wpLate P md l.toArray Q L n (done.setIfInBounds i true) (a.put oi.dst v) w) : wpLate P md l.toArray Q L (n + 1) done a w :=
  have hi' : l.toArray[i]? = some oi := by rw [List.getElem?_toArray]; exact hi
  late_first hi' hs (Or.inr fun _ => trivial) (none_spec hn) hii hQ n done a w (Region.free_spec hi' hf) (by simpa using hr) (shut_of hsh) hy trivial hA.kept h
/-- Number i is taken first. -/
theorem late_take (i : Nat) {oi : Oper} {v : Value} {n : Nat} {done : Array Bool} {a : Act} {w : World} (hi : l[i]? = some oi) (hs : Region.noSelect l.toArray = true) (hL : (i, S) ∈ L) (hn : noneB md l.toArray i (L.map Prod.fst) = true) (hf : Region.free md l.toArray done i = true) (hr : (Region.ready md l.toArray done).contains i = true) (hsh : shutB md l.toArray done = true)
    (hQ : ∀ c a w, Q (.panic c) (a.put oi.dst v) w → Q (.panic c) a w) (hy : YieldsIf P l.toArray S oi v a) (hA : AllL w L) (h : wpLate P md l.toArray Q L n (done.setIfInBounds i true) (a.put oi.dst v) w) : wpLate P md l.toArray Q L (n + 1) done a w :=
  have hi' : l.toArray[i]? = some oi := by rw [List.getElem?_toArray]; exact hi
  late_first hi' hs (Or.inl hL) (none_spec hn) (none_spec hn (i, S) hL) hQ n done a w (Region.free_spec hi' hf) (by simpa using hr) (shut_of hsh) hy (hA.get _ hL) hA.kept h
/-- Number j alone may come up. -/
theorem late_step (j : Nat) {o : Oper} {n : Nat} {done : Array Bool} {a : Act} {w : World} (hr : Region.ready md l.toArray done = [j]) (ho : l[j]? = some o)
    (h : ∀ K' : Act → World → Prop, Shut (∀ b u, Kept md l.toArray (done.setIfInBounds j true) u L → wpLate P md l.toArray Q L n (done.setIfInBounds j true) b u → K' b u) → if Region.wanted o (yielded l.toArray a.tmps) = true then Oper.wp P o a w K' Q else K' (a.put o.dst undef) w) :
    wpLate P md l.toArray Q L (n + 1) done a w := by
  constructor
  · intro h0; rw [h0] at hr; cases hr
  · intro k hk
    rw [hr, List.mem_singleton] at hk
    subst hk
    exact wpOp_step (by rw [List.getElem?_toArray]; exact ho) (fun K' hK => h K' (fun b u h1 h2 => hK b u ⟨h1, h2⟩))
theorem late_done {done : Array Bool} {a : Act} {w : World} (hr : Region.ready md l.toArray done = []) (h : Q .normal a w) : ∀ n, wpLate P md l.toArray Q L n done a w
  | 0 => ⟨hr, h⟩
  | _ + 1 => ⟨fun _ => h, by rw [hr]; intro j hj; cases hj⟩
theorem late_two (j k : Nat) {o o2 : Oper} {n : Nat} {done : Array Bool} {a : Act} {w : World} (hr : Region.ready md l.toArray done = [j, k]) (ho : l[j]? = some o) (ho2 : l[k]? = some o2)
    (h : ∀ K' : Act → World → Prop, Shut (∀ b u, Kept md l.toArray (done.setIfInBounds j true) u L → wpLate P md l.toArray Q L n (done.setIfInBounds j true) b u → K' b u) → if Region.wanted o (yielded l.toArray a.tmps) = true then Oper.wp P o a w K' Q else K' (a.put o.dst undef) w)
    (h2 : ∀ K' : Act → World → Prop, Shut (∀ b u, Kept md l.toArray (done.setIfInBounds k true) u L → wpLate P md l.toArray Q L n (done.setIfInBounds k true) b u → K' b u) → if Region.wanted o2 (yielded l.toArray a.tmps) = true then Oper.wp P o2 a w K' Q else K' (a.put o2.dst undef) w) :
    wpLate P md l.toArray Q L (n + 1) done a w := by
  constructor
  · intro h0; rw [h0] at hr; cases hr
  · intro i hi
    rw [hr] at hi
    rcases List.mem_cons.1 hi with e | hi
    · subst e
      exact wpOp_step (by rw [List.getElem?_toArray]; exact ho) (fun K' hK => h K' (fun b u h1 h2 => hK b u ⟨h1, h2⟩))
    · rw [List.mem_singleton] at hi
      subst hi
      exact wpOp_step (by rw [List.getElem?_toArray]; exact ho2) (fun K' hK => h2 K' (fun b u h1 h2 => hK b u ⟨h1, h2⟩))
theorem late_three (i j k : Nat) {o o2 o3 : Oper} {n : Nat} {done : Array Bool} {a : Act} {w : World} (hr : Region.ready md l.toArray done = [i, j, k]) (ho : l[i]? = some o) (ho2 : l[j]? = some o2) (ho3 : l[k]? = some o3)
    (h : ∀ K' : Act → World → Prop, Shut (∀ b u, Kept md l.toArray (done.setIfInBounds i true) u L → wpLate P md l.toArray Q L n (done.setIfInBounds i true) b u → K' b u) → if Region.wanted o (yielded l.toArray a.tmps) = true then Oper.wp P o a w K' Q else K' (a.put o.dst undef) w)
    (h2 : ∀ K' : Act → World → Prop, Shut (∀ b u, Kept md l.toArray (done.setIfInBounds j true) u L → wpLate P md l.toArray Q L n (done.setIfInBounds j true) b u → K' b u) → if Region.wanted o2 (yielded l.toArray a.tmps) = true then Oper.wp P o2 a w K' Q else K' (a.put o2.dst undef) w)
    (h3 : ∀ K' : Act → World → Prop, Shut (∀ b u, Kept md l.toArray (done.setIfInBounds k true) u L → wpLate P md l.toArray Q L n (done.setIfInBounds k true) b u → K' b u) → if Region.wanted o3 (yielded l.toArray a.tmps) = true then Oper.wp P o3 a w K' Q else K' (a.put o3.dst undef) w) :
    wpLate P md l.toArray Q L (n + 1) done a w := by
  constructor
  · intro h0; rw [h0] at hr; cases hr
  · intro m hm
    rw [hr] at hm
    rcases List.mem_cons.1 hm with e | hm
    · subst e
      exact wpOp_step (by rw [List.getElem?_toArray]; exact ho) (fun K' hK => h K' (fun b u h1 h2 => hK b u ⟨h1, h2⟩))
    · rcases List.mem_cons.1 hm with e | hm
      · subst e
        exact wpOp_step (by rw [List.getElem?_toArray]; exact ho2) (fun K' hK => h2 K' (fun b u h1 h2 => hK b u ⟨h1, h2⟩))
      · rw [List.mem_singleton] at hm
        subst hm
        exact wpOp_step (by rw [List.getElem?_toArray]; exact ho3) (fun K' hK => h3 K' (fun b u h1 h2 => hK b u ⟨h1, h2⟩))
/-! The same, in fewer words. -/
theorem late_fr (i : Nat) {oi : Oper} {v : Value} {n : Nat} {done : Array Bool} {a : Act} {w : World} (hi : l[i]? = some oi) (hy : YieldsIf P l.toArray (fun _ => True) oi v a) (hA : AllL w L) (h : wpLate P md l.toArray Q L n (done.setIfInBounds i true) (a.put oi.dst v) w)
    (hs : Region.noSelect l.toArray = true := by kernel_rfl) (hn : noneB md l.toArray i (L.map Prod.fst) = true := by kernel_rfl) (hii : waitsB md l.toArray i i = false := by kernel_rfl) (hf : Region.free md l.toArray done i = true := by kernel_rfl) (hr : (Region.ready md l.toArray done).contains i = true := by kernel_rfl) (hsh : shutB md l.toArray done = true := by kernel_rfl)
    (hQ : ∀ c a w, Q (.panic c) (a.put oi.dst v) w → Q (.panic c) a w := by exact fun _ _ _ h => h) : wpLate P md l.toArray Q L (n + 1) done a w := late_free i hi hs hn hii hf hr hsh hQ hy hA h
theorem late_tk (i : Nat) {oi : Oper} {v : Value} {n : Nat} {done : Array Bool} {a : Act} {w : World} (hi : l[i]? = some oi) (hL : (i, S) ∈ L) (hy : YieldsIf P l.toArray S oi v a) (hA : AllL w L) (h : wpLate P md l.toArray Q L n (done.setIfInBounds i true) (a.put oi.dst v) w)
    (hs : Region.noSelect l.toArray = true := by kernel_rfl) (hn : noneB md l.toArray i (L.map Prod.fst) = true := by kernel_rfl) (hf : Region.free md l.toArray done i = true := by kernel_rfl) (hr : (Region.ready md l.toArray done).contains i = true := by kernel_rfl) (hsh : shutB md l.toArray done = true := by kernel_rfl)
    (hQ : ∀ c a w, Q (.panic c) (a.put oi.dst v) w → Q (.panic c) a w := by exact fun _ _ _ h => h) : wpLate P md l.toArray Q L (n + 1) done a w := late_take i hi hs hL hn hf hr hsh hQ hy hA h
theorem late_st (j : Nat) {o : Oper} {n : Nat} {done : Array Bool} {a : Act} {w : World} (ho : l[j]? = some o)
    (h : ∀ K' : Act → World → Prop, Shut (∀ b u, Kept md l.toArray (done.setIfInBounds j true) u L → wpLate P md l.toArray Q L n (done.setIfInBounds j true) b u → K' b u) → if Region.wanted o (yielded l.toArray a.tmps) = true then Oper.wp P o a w K' Q else K' (a.put o.dst undef) w)
    (hr : Region.ready md l.toArray done = [j] := by kernel_rfl) : wpLate P md l.toArray Q L (n + 1) done a w := late_step j hr ho h
theorem kpt {A B : Nat → Prop} {C : Prop} (k : Nat) (h1 : A k := by kernel_rfl) (h2 : B k := by kernel_rfl) : (∃ p, A p ∧ B p) ∨ C := Or.inl ⟨k, h1, h2⟩
theorem putA {α : Type} (l : List α) (i : Nat) (a : α) : l.toArray.setIfInBounds i a = (l.set i a).toArray := List.setIfInBounds_toArray ..
theorem putB {α : Type} (x : α) (l : List α) (a : α) : (x :: l).set 0 a = a :: l := List.set_cons_zero
theorem putC {α : Type} (x : α) (l : List α) (i : Nat) (a : α) : (x :: l).set (i + 1) a = x :: l.set i a := List.set_cons_succ
end
end Go.Proofs.YtfnafgjnimfmjaaGreatDoor.L2
