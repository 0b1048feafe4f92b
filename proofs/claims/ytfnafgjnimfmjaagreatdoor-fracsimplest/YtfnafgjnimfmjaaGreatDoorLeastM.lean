/-
  Proved here: plain facts on the simplest fraction from one to another: it lies there, and none there has a lesser number above or below its line.
-/
import Derived.Test.YtfnafgjnimfmjaaGreatDoorSimp3
namespace Go.Proofs.YtfnafgjnimfmjaaGreatDoor

theorem lift_le {a b c d : Nat} {x y : Int} (hx : x = a) (hy : y = c) (h : x * (d : Int) ≤ y * (b : Int)) : a * d ≤ c * b := by
  subst hx hy
  exact_mod_cast h
theorem UpTo.least {a b : Rat} (h : UpTo a b) {k : Int} {d : Nat} (hd : 0 < d) (h1 : a.num * d ≤ k * a.den) (h2 : k * b.den ≤ b.num * d) : (sQ a b).den ≤ d ∧ (sQ a b).num.natAbs ≤ k.natAbs := by
  obtain ⟨p1, p2⟩ := h.parts
  have u1 := h.pos
  have u2 := h.pos2
  have hk : 0 < k := by
    have h3 : 0 < a.num * (d : Int) := Int.mul_pos u1 (by omega)
    exact Int.pos_of_mul_pos_left (Int.lt_of_lt_of_le h3 h1) (by have := a.den_pos; omega)
  have l := h.simp.least k.natAbs d hd (lift_le (x := a.num) (y := k) (by omega) (by omega) h1) (lift_le (x := k) (y := b.num) (by omega) (by omega) h2)
  rw [p1, p2, Int.natAbs_natCast]
  exact ⟨l.2, l.1⟩
/-- None there is simpler. -/
theorem sp_least {a b : Rat} (hab : a.num * b.den ≤ b.num * a.den) {k : Int} {d : Nat} (hd : 0 < d) (h1 : a.num * d ≤ k * a.den) (h2 : k * b.den ≤ b.num * d) : (spQ a b).den ≤ d ∧ (spQ a b).num.natAbs ≤ k.natAbs := by
  unfold spQ
  split
  · rename_i hp
    exact UpTo.least ⟨hp, hab⟩ hd h1 h2
  · split
    · rename_i hr
      have l := UpTo.least (UpTo.neg hab hr) (k := -k) hd (by rw [Rat.neg_num, Rat.neg_den, Int.neg_mul, Int.neg_mul]; omega) (by rw [Rat.neg_num, Rat.neg_den, Int.neg_mul, Int.neg_mul]; omega)
      rw [Rat.neg_num, Rat.neg_den, Int.natAbs_neg]
      rw [Int.natAbs_neg] at l
      exact l
    · exact ⟨hd, Nat.zero_le _⟩
theorem RSz.sp {a b : Rat} {L : Nat} (hab : a.num * b.den ≤ b.num * a.den) (ha : RSz a L) : RSz (spQ a b) L := by
  have l := sp_least hab (k := a.num) (d := a.den) a.den_pos (Int.le_refl _) hab
  exact ⟨ha.num.le l.2, ha.den.le (by rw [Int.natAbs_natCast, Int.natAbs_natCast]; exact l.1)⟩
end Go.Proofs.YtfnafgjnimfmjaaGreatDoor
