/-
  Proved here: plain facts on the simplest fraction from one to another: it lies there, and none there has a lesser number above or below its line.
-/
import Derived.Test.YtdfmmaehmngkhaaDoorSimp3
namespace Go.Proofs.YtdfmmaehmngkhaaDoor

theorem lift_le {a b c d : Nat} {x y : Int} (hx : x = a) (hy : y = c) (h : x * (d : Int) ≤ y * (b : Int)) : a * d ≤ c * b := by
  subst hx hy
  exact_mod_cast h
theorem UpTo.least {a b : Rat} (h : UpTo a b) {k : Int} {d : Nat} (hd : 0 < d) (h1 : a.num * d ≤ k * a.den) (h2 : k * b.den ≤ b.num * d) : (sQ a b).den ≤ d ∧ (sQ a b).num.natAbs ≤ k.natAbs := by
  obtain ⟨p1, p2⟩ := h.parts
  have u1 := h.pos
  have u2 := h.pos2
  have hk : 0 < k := by
    have h3 : 0 < a.num * (d : Int) := Int.mul_pos u1 (by omega)
    exact Int.pos_of_mul_pos_left (Int.lt_of_lt_of_le h3 h1) (by have := a.den_pos; omega)
  have l := h.simp.least k.natAbs d hd (lift_le (x := a.num) (y := k) (by omega) (by omega) h1) (lift_le (x := k) (y := b.num) (by omega) (by omega) h2)
  rw [p1, p2, Int.natAbs_natCast]
  exact ⟨l.2, l.1⟩
theorem UpTo.lies {a b : Rat} (h : UpTo a b) : a.num * (sQ a b).den ≤ (sQ a b).num * a.den ∧ (sQ a b).num * b.den ≤ b.num * (sQ a b).den := by
  obtain ⟨p1, p2⟩ := h.parts
  have u1 := h.pos
  have u2 := h.pos2
  have l := h.simp.low
  have g := h.simp.high
  have e1 : ((a.num.natAbs : Nat) : Int) = a.num := by omega
  have e2 : ((b.num.natAbs : Nat) : Int) = b.num := by omega
  rw [p1, p2]
  constructor
  · rw [← e1]; exact_mod_cast l
  · rw [← e2]; exact_mod_cast g
/-- None there is simpler. -/
theorem sp_least {a b : Rat} (hab : a.num * b.den ≤ b.num * a.den) {k : Int} {d : Nat} (hd : 0 < d) (h1 : a.num * d ≤ k * a.den) (h2 : k * b.den ≤ b.num * d) : (spQ a b).den ≤ d ∧ (spQ a b).num.natAbs ≤ k.natAbs := by
  unfold spQ
  split
  · rename_i hp
    exact UpTo.least ⟨hp, hab⟩ hd h1 h2
  · split
    · rename_i hr
      have l := UpTo.least (UpTo.neg hab hr) (k := -k) hd (by rw [Rat.neg_num, Rat.neg_den, Int.neg_mul, Int.neg_mul]; omega) (by rw [Rat.neg_num, Rat.neg_den, Int.neg_mul, Int.neg_mul]; omega)
      rw [Rat.neg_num, Rat.neg_den, Int.natAbs_neg]
      rw [Int.natAbs_neg] at l
      exact l
    · exact ⟨hd, Nat.zero_le _⟩
/-- It lies there. -/
theorem sp_lies {a b : Rat} (hab : a.num * b.den ≤ b.num * a.den) : a.num * (spQ a b).den ≤ (spQ a b).num * a.den ∧ (spQ a b).num * b.den ≤ b.num * (spQ a b).den := by
  unfold spQ
  split
  · rename_i hp
    exact UpTo.lies ⟨hp, hab⟩
  · rename_i hp
    split
    · rename_i hr
      have l := UpTo.lies (UpTo.neg hab hr)
      rw [Rat.neg_num, Rat.neg_den] at l ⊢
      rw [Int.neg_mul, Rat.neg_num, Rat.neg_den, Int.neg_mul] at l
      rw [Int.neg_mul, Int.neg_mul]
      omega
    · rename_i hr
      have e1 : (0 : Rat).den = 1 := rfl
      have e2 : (0 : Rat).num = 0 := rfl
      rw [e1, e2]
      exact ⟨by rw [Int.zero_mul]; show a.num * ((1 : Nat) : Int) ≤ 0; omega, by rw [Int.zero_mul]; show 0 ≤ b.num * ((1 : Nat) : Int); omega⟩

theorem cmpQ_nn {x y : Rat} : cmpQ x y < 0 ↔ x.num * y.den < y.num * x.den := by
  unfold cmpQ cmpZ
  split
  · constructor <;> intro h <;> first | assumption | decide
  · split <;> constructor <;> intro h <;> first | omega | (exact absurd h (by decide))
theorem cmpQ_pp {x y : Rat} : 0 < cmpQ x y ↔ y.num * x.den < x.num * y.den := by
  unfold cmpQ cmpZ
  split
  · constructor <;> intro h <;> first | omega | (exact absurd h (by decide))
  · split
    · constructor <;> intro h <;> first | omega | (exact absurd h (by decide))
    · constructor <;> intro h <;> first | omega | decide
/-- A step nearer to 0 leaves what lies between. -/
theorem sp_nearer {a b : Rat} (hab : a.num * b.den ≤ b.num * a.den) (r s : Rat) (hs : s = spQ a b) (p : Int) (hp : p.natAbs < s.num.natAbs) (hr : r = Rat.divInt p s.den) : cmpQ r a < 0 ∨ 0 < cmpQ r b := by
  by_cases h1 : cmpQ r a < 0
  · exact Or.inl h1
  · by_cases h2 : 0 < cmpQ r b
    · exact Or.inr h2
    · exfalso
      rw [cmpQ_nn] at h1
      rw [cmpQ_pp] at h2
      have l := sp_least hab (k := r.num) (d := r.den) r.den_pos (by omega) (by omega)
      rw [← hs] at l
      have hn : r.num.natAbs ≤ p.natAbs := by rw [hr]; exact num_le (by have := s.den_pos; omega)
      omega
/-- The greatest whole number that is not above. -/
def flo2 (x : Rat) : Int := x.num / (x.den : Int)
theorem flo2_le (x : Rat) : flo2 x * x.den ≤ x.num := by
  unfold flo2
  rw [Int.mul_comm]
  exact Int.mul_ediv_self_le (by have := x.den_pos; omega)
theorem fq_pos2 {x y : Int} (hy : 0 < y) : fq x y = x / y := by
  have h1 := Int.emod_nonneg x (Int.ne_of_gt hy)
  have h2 := Int.emod_lt_of_pos x hy
  have h3 := Int.mul_ediv_add_emod x y
  have h4 := Int.mul_tdiv_add_tmod x y
  have hz : rz x y = x.tmod y := by unfold rz; rw [if_neg (by omega)]
  have hc : cmpZ y 0 = 1 := by unfold cmpZ; rw [if_neg (by omega), if_neg (by omega)]
  have h5 : x.tmod y < y := Int.tmod_lt_of_pos x hy
  have h6 : -y < x.tmod y := Int.lt_tmod_of_pos x hy
  have hf : fup x y ↔ x.tmod y < 0 := by
    unfold fup
    rw [hz, hc, Int.mul_one]
    unfold cmpZ
    split
    · rename_i h; simp [h]
    · rename_i h; split <;> simp <;> omega
  unfold fq
  by_cases hn : x.tmod y < 0
  · rw [if_pos (hf.2 hn)]
    generalize x.tmod y = t at *
    have := Int.ediv_emod_unique hy |>.2 ⟨show (y + t) + y * (x.tdiv y - 1) = x by rw [Int.mul_sub, Int.mul_one]; omega, by omega, by omega⟩
    exact this.1.symm
  · rw [if_neg (fun h => hn (hf.1 h))]
    generalize x.tmod y = t at *
    have := Int.ediv_emod_unique hy |>.2 ⟨show t + y * (x.tdiv y) = x by omega, by omega, by omega⟩
    exact this.1.symm
theorem flo_rq2 (p : Int) (q : Nat) : fq p (und q) = flo2 (rq p q) := by
  rw [fq_pos2 (und_pos q)]
  obtain ⟨k, hk, e1, e2⟩ := rq_parts p q
  unfold flo2
  rw [e2]
  conv => lhs; lhs; rw [e1]
  exact Int.mul_ediv_mul_of_pos_left _ _ hk
theorem times_parts (a : Rat) (d : Nat) (D : Rat) (hD : D = Rat.divInt d 1) : ∃ k : Int, 0 < k ∧ a.num * d = (a * D).num * k ∧ (a.den : Int) = (a * D).den * k := by
  have e : a * D = Rat.divInt (a.num * d) a.den := by
    rw [hD]
    conv => lhs; lhs; rw [← Rat.num_divInt_den a]
    rw [Rat.divInt_mul_divInt, Int.mul_one]
  rw [e]
  exact div_parts (by have := a.den_pos; omega)
/-- Between two neighbours of a lesser denominator. -/
theorem sp_gap {a b : Rat} (hab : a.num * b.den ≤ b.num * a.den) {d : Nat} (hd : 0 < d) (hlt : d < (spQ a b).den) {D : Rat} (hD : D = Rat.divInt d 1) : ¬ -flo2 (-(a * D)) ≤ flo2 (b * D) := by
  intro hle
  obtain ⟨i, hi, a1, a2⟩ := times_parts a d D hD
  obtain ⟨j, hj, b1, b2⟩ := times_parts b d D hD
  have f1 := flo2_le (-(a * D))
  have f2 := flo2_le (b * D)
  rw [Rat.neg_num, Rat.neg_den] at f1
  generalize a * D = A at *
  generalize b * D = B at *
  obtain ⟨k, hk⟩ : ∃ k, k = -flo2 (-A) := ⟨_, rfl⟩
  rw [← hk] at hle
  have g1 : A.num ≤ k * A.den := by rw [hk, Int.neg_mul]; omega
  have g2 : k * B.den ≤ B.num := Int.le_trans (Int.mul_le_mul_of_nonneg_right hle (by omega)) f2
  have l := sp_least hab (k := k) hd (by rw [a1, a2, ← Int.mul_assoc]; exact Int.mul_le_mul_of_nonneg_right g1 (by omega)) (by rw [b1, b2, ← Int.mul_assoc]; exact Int.mul_le_mul_of_nonneg_right g2 (by omega))
  omega
theorem RSz.sp {a b : Rat} {L : Nat} (hab : a.num * b.den ≤ b.num * a.den) (ha : RSz a L) : RSz (spQ a b) L := by
  have l := sp_least hab (k := a.num) (d := a.den) a.den_pos (Int.le_refl _) hab
  exact ⟨ha.num.le l.2, ha.den.le (by rw [Int.natAbs_natCast, Int.natAbs_natCast]; exact l.1)⟩
end Go.Proofs.YtdfmmaehmngkhaaDoor
