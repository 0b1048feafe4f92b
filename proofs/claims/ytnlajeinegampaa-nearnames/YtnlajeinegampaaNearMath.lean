/-
  Proved here: plain mathematics of a fraction's place among floats.
-/
import Derived.Test.YtnlajeinegampaaBits
import Derived.Test.YtnlajeinegampaaMath2
namespace Go.Proofs.Ytnlajeinegampaa

/-- A number times 2 ^ n; itself, if n is not above 0. -/
def up (x : Nat) (n : Int) : Nat := x * 2 ^ n.toNat
/-- The exponent of the greatest power of 2 that is not above N / D. -/
def leadF (N D : Nat) : Int := if up N (-((bl N : Int) - bl D)) < up D ((bl N : Int) - bl D) then (bl N : Int) - bl D - 1 else (bl N : Int) - bl D
def expF (d : Nat) (l : Int) (N D : Nat) : Int := max (leadF N D + 1 - d) l
def shareF (r s : Nat) : Int := if r = 0 then 0 else 2 + cmpN (up r 1) s
def unitsF (d : Nat) (l : Int) (N D : Nat) : Nat := up N (-expF d l N D) / up D (expF d l N D)
def restF (d : Nat) (l : Int) (N D : Nat) : Nat := up N (-expF d l N D) % up D (expF d l N D)
def belowF (d : Nat) (l : Int) (N D : Nat) : Nat := unitsF d l N D + (expF d l N D - l).toNat * 2 ^ (d - 1)
def infF (d : Nat) (l t : Int) : Nat := 2 ^ d + (t - d - l).toNat * 2 ^ (d - 1)
/-- The place of a size that is neither 0 nor far out. -/
def divideF (d : Nat) (l t : Int) (N D : Nat) : Nat × Int :=
  if infF d l t ≤ belowF d l N D then (infF d l t - 1, 3) else (belowF d l N D, shareF (restF d l N D) (up D (expF d l N D)))
/-- The place of a fraction's size. -/
def findF (d : Nat) (l t : Int) (N D : Nat) : Nat × Int :=
  if bl N = 0 then (0, 0) else if t < (bl N : Int) - bl D then (infF d l t - 1, 3) else if (bl N : Int) - bl D < l - 1 then (0, 1) else divideF d l t N D
def nearestF (p : Nat × Int) : Nat := if p.2 = 3 ∨ (p.2 = 2 ∧ p.1 % 2 = 1) then p.1 + 1 else p.1

theorem lt_scale {N D : Nat} {k : Int} {c : Nat} (hc : k.toNat ≤ c) : up N (-k) < up D k ↔ N * 2 ^ ((c : Int) - k).toNat < D * 2 ^ c := by
  unfold up
  have e1 : ((c : Int) - k).toNat = (-k).toNat + (c - k.toNat) := by omega
  have e2 : c = k.toNat + (c - k.toNat) := by omega
  rw [e1, Nat.pow_add, ← Nat.mul_assoc]
  conv => rhs; rhs; rw [e2, Nat.pow_add, ← Nat.mul_assoc]
  exact (Nat.mul_lt_mul_right (Nat.two_pow_pos _)).symm

theorem up_mono {N D : Nat} {k m : Int} (h : up N (-k) < up D k) (hm : k ≤ m) : up N (-m) < up D m := by
  obtain ⟨c, hc⟩ : ∃ c, c = max k.toNat m.toNat := ⟨_, rfl⟩
  rw [lt_scale (c := c) (by omega)] at h ⊢
  refine Nat.lt_of_le_of_lt (Nat.mul_le_mul_left _ (Nat.pow_le_pow_right (by decide) ?_)) h
  omega

theorem guess_hi {N D : Nat} (hN : N ≠ 0) (hD : D ≠ 0) : up N (-((bl N : Int) - bl D + 1)) < up D ((bl N : Int) - bl D + 1) := by
  obtain ⟨a, ea, _, h2⟩ := bl_bounds hN
  obtain ⟨b, eb, h3, _⟩ := bl_bounds hD
  rw [lt_scale (c := a + 1) (by omega), ea, eb]
  have e : (((a + 1 : Nat) : Int) - (((a + 1 : Nat) : Int) - ((b + 1 : Nat) : Int) + 1)).toNat = b := by omega
  rw [e]
  calc N * 2 ^ b < 2 ^ (a + 1) * 2 ^ b := Nat.mul_lt_mul_of_pos_right h2 (Nat.two_pow_pos _)
    _ = 2 ^ b * 2 ^ (a + 1) := Nat.mul_comm _ _
    _ ≤ D * 2 ^ (a + 1) := Nat.mul_le_mul_right _ h3

theorem lead_hi {N D : Nat} (hN : N ≠ 0) (hD : D ≠ 0) : up N (-(leadF N D + 1)) < up D (leadF N D + 1) := by
  unfold leadF
  split
  · rename_i h
    rw [show (bl N : Int) - bl D - 1 + 1 = (bl N : Int) - bl D by omega]
    exact h
  · exact guess_hi hN hD

theorem lead_le (N D : Nat) : leadF N D ≤ (bl N : Int) - bl D := by unfold leadF; split <;> omega
theorem lead_ge (N D : Nat) : (bl N : Int) - bl D - 1 ≤ leadF N D := by unfold leadF; split <;> omega

theorem up_pos {D : Nat} (hD : D ≠ 0) (k : Int) : 0 < up D k := Nat.mul_pos (by omega) (Nat.two_pow_pos _)

theorem units_lt {N D d : Nat} {l : Int} (hN : N ≠ 0) (hD : D ≠ 0) : unitsF d l N D < 2 ^ d := by
  unfold unitsF
  obtain ⟨e, he⟩ : ∃ e, e = expF d l N D := ⟨_, rfl⟩
  have hle : leadF N D + 1 ≤ e + d := by rw [he]; unfold expF; omega
  rw [← he]
  have h := up_mono (lead_hi hN hD) hle
  rw [Nat.div_lt_iff_lt_mul (up_pos hD e)]
  obtain ⟨c, hc⟩ : ∃ c : Nat, c = max e.toNat (e + d).toNat := ⟨_, rfl⟩
  have h2 := (lt_scale (N := N) (D := D) (k := e + d) (c := c) (by omega)).1 h
  have h3 : up N (-e) < 2 ^ d * up D e ↔ up N (-e) < up (D * 2 ^ d) e := by
    unfold up
    rw [Nat.mul_comm (2 ^ d), Nat.mul_assoc, Nat.mul_assoc, Nat.mul_comm (2 ^ e.toNat)]
  rw [h3, lt_scale (c := c) (by omega)]
  have e1 : ((c : Int) - e).toNat = ((c : Int) - (e + d)).toNat + d := by omega
  rw [e1, Nat.pow_add, ← Nat.mul_assoc]
  calc N * 2 ^ ((c : Int) - (e + d)).toNat * 2 ^ d < D * 2 ^ c * 2 ^ d := Nat.mul_lt_mul_of_pos_right h2 (Nat.two_pow_pos _)
    _ = D * 2 ^ d * 2 ^ c := Nat.mul_right_comm _ _ _
end Go.Proofs.Ytnlajeinegampaa
