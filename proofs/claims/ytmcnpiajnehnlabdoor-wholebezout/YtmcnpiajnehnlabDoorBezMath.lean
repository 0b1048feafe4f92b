/-
  Proved here: plain facts on Euclid's rows.
-/
import Derived.Test.YtmcnpiajnehnlabDoorWholeX3
namespace Go.Proofs.YtmcnpiajnehnlabDoor

/-- What Euclid's rows keep. -/
structure IB (X Y r0 s0 t0 r1 s1 t1 e a b c d : Int) : Prop where
  sg : e = 1 ∨ e = -1
  es0 : s0 = e * a
  es1 : s1 = -(e * b)
  et0 : t0 = -(e * c)
  et1 : t1 = e * d
  pa : 0 ≤ a
  pb : 0 ≤ b
  pc : 0 ≤ c
  pd : 0 ≤ d
  p0 : 0 ≤ r0
  p1 : 0 ≤ r1
  ex : r0 * d + r1 * c = X
  ey : r1 * a + r0 * b = Y
  e0 : r0 = X * s0 + Y * t0
  e1 : r1 = X * s1 + Y * t1
  dn : r1 ≤ r0 ∨ (b ≤ 1 ∧ d ≤ 1)
  gs : a ≤ b ∨ a ≤ 1
  gt : c ≤ d ∨ c ≤ 1
  la : a ≤ Y + 1
  lb : b ≤ Y + 1
  lc : c ≤ X + 1
  ld : d ≤ X + 1
  l0 : r0 ≤ X + Y
  l1 : r1 ≤ X + Y
def IBx (X Y r0 s0 t0 r1 s1 t1 : Int) : Prop := ∃ e a b c d, IB X Y r0 s0 t0 r1 s1 t1 e a b c d
theorem IB_start {X Y : Int} (hX : 0 ≤ X) (hY : 0 ≤ Y) : IBx X Y X 1 0 Y 0 1 :=
  ⟨1, 1, 0, 0, 1, Or.inl rfl, by omega, by omega, by omega, by omega, by omega, by omega, by omega, by omega, hX, hY, by omega, by omega, by omega, by omega, Or.inr (by omega), Or.inr (by omega), Or.inr (by omega), by omega, by omega, by omega, by omega, by omega, by omega⟩
theorem le_of_mul_le' {r b Y : Int} (hr : 1 ≤ r) (hb : 0 ≤ b) (h : r * b ≤ Y) : b ≤ Y := by
  have h1 : 1 * b ≤ r * b := Int.mul_le_mul_of_nonneg_right hr hb
  omega
theorem IB_step {X Y r0 s0 t0 r1 s1 t1 : Int} (h : IBx X Y r0 s0 t0 r1 s1 t1) (hr : r1 ≠ 0) : IBx X Y r1 s1 t1 (rz r0 r1) (s0 - r0.tdiv r1 * s1) (t0 - r0.tdiv r1 * t1) := by
  obtain ⟨e, a, b, c, d, h⟩ := h
  have hp1 := h.p1
  have hp0 := h.p0
  have hback : r0.tdiv r1 * r1 + rz r0 r1 = r0 := by unfold rz; rw [if_neg hr, Int.mul_comm]; exact Int.mul_tdiv_add_tmod r0 r1
  have hq0 : 0 ≤ r0.tdiv r1 := Int.tdiv_nonneg hp0 hp1
  have hz0 : 0 ≤ rz r0 r1 := by unfold rz; rw [if_neg hr]; exact Int.tmod_nonneg r1 hp0
  have hzl : rz r0 r1 < r1 := by have := rz_lt (x := r0) hr; omega
  generalize r0.tdiv r1 = q at *
  generalize rz r0 r1 = r2 at *
  have hqb : 0 ≤ q * b := Int.mul_nonneg hq0 h.pb
  have hqd : 0 ≤ q * d := Int.mul_nonneg hq0 h.pd
  have hx2 : r1 * (c + q * d) + r2 * d = X := by
    rw [← h.ex, ← hback, Int.mul_add, Int.add_mul, ← Int.mul_assoc, Int.mul_comm r1 q]; omega
  have hy2 : r2 * b + r1 * (a + q * b) = Y := by
    rw [← h.ey, ← hback, Int.mul_add, Int.add_mul, ← Int.mul_assoc, Int.mul_comm r1 q]; omega
  have hr2b : 0 ≤ r2 * b := Int.mul_nonneg hz0 h.pb
  have hr2d : 0 ≤ r2 * d := Int.mul_nonneg hz0 h.pd
  have pa := h.pa
  have pb := h.pb
  have pc := h.pc
  have pd := h.pd
  have hlb : a + q * b ≤ Y := le_of_mul_le' (r := r1) (by omega) (by omega) (by omega)
  have hld : c + q * d ≤ X := le_of_mul_le' (r := r1) (by omega) (by omega) (by omega)
  have e1 := h.es0
  have e2 := h.es1
  have e3 := h.et0
  have e4 := h.et1
  have g1 : s0 - q * s1 = -(-e * (a + q * b)) := by
    rw [e1, e2, Int.mul_neg, Int.neg_mul, Int.mul_add, Int.mul_left_comm]; omega
  have g2 : t0 - q * t1 = -e * (c + q * d) := by
    rw [e3, e4, Int.neg_mul, Int.mul_add, Int.mul_left_comm]; omega
  have hdn : b ≤ a + q * b ∨ b ≤ 1 := by
    rcases Int.lt_or_le 0 q with h1 | h1
    · left
      have : 1 * b ≤ q * b := Int.mul_le_mul_of_nonneg_right (by omega) pb
      omega
    · right
      have hq : q = 0 := by omega
      rw [hq] at hback
      rcases h.dn with h2 | h2
      · omega
      · exact h2.1
  have hdt : d ≤ c + q * d ∨ d ≤ 1 := by
    rcases Int.lt_or_le 0 q with h1 | h1
    · left
      have : 1 * d ≤ q * d := Int.mul_le_mul_of_nonneg_right (by omega) pd
      omega
    · right
      have hq : q = 0 := by omega
      rw [hq] at hback
      rcases h.dn with h2 | h2
      · omega
      · exact h2.2
  have k0 := h.e0
  have k1 := h.e1
  have hl1 := h.l1
  have hlb0 := h.lb
  have hld0 := h.ld
  refine ⟨-e, b, a + q * b, d, c + q * d, ?_, ?_, g1, ?_, g2, pb, by omega, pd, by omega, hp1, hz0, ?_, ?_, k1, ?_, Or.inl (by omega), hdn, hdt, hlb0, by omega, hld0, by omega, hl1, by omega⟩
  · rcases h.sg with h1 | h1 <;> omega
  · rw [e2, Int.neg_mul]
  · rw [e4, Int.neg_mul]; omega
  · exact hx2
  · exact hy2
  · have : r2 = r0 - q * r1 := by omega
    rw [this, Int.mul_sub, Int.mul_sub]
    have m1 : q * r1 = X * (q * s1) + Y * (q * t1) := by
      rw [Int.mul_left_comm X q s1, Int.mul_left_comm Y q t1, ← Int.mul_add, ← k1]
    omega
theorem bz_inv {X Y : Int} : ∀ (n : Nat) (r0 s0 t0 r1 s1 t1 : Int), r1.natAbs ≤ n → IBx X Y r0 s0 t0 r1 s1 t1 → ∃ s9 t9, IBx X Y (bz r0 s0 t0 r1 s1 t1).1 (bz r0 s0 t0 r1 s1 t1).2.1 (bz r0 s0 t0 r1 s1 t1).2.2 0 s9 t9
  | n, r0, s0, t0, r1, s1, t1, hn, h => by
    by_cases hr : r1 = 0
    · rw [bz_stop hr]
      subst hr
      exact ⟨s1, t1, h⟩
    · rw [bz_go hr]
      match n, hn with
      | 0, hn => omega
      | m + 1, hn => exact bz_inv m _ _ _ _ _ _ (by have := rz_lt (x := r0) hr; omega) (IB_step h hr)
/-- What Bezout's law asks of the three numbers. -/
structure Bez (A B G S T : Int) : Prop where
  g0 : 0 ≤ G
  mak : A * (if A < 0 then -S else S) + B * (if B < 0 then -T else T) = G
  nil : G = 0 → A = 0 ∧ B = 0
  ra : G ≠ 0 → rz A G = 0 ∧ rz B G = 0
  ls : G ≠ 0 → S.natAbs ≤ (B.tdiv G).natAbs ∨ S.natAbs ≤ 1
  lt : G ≠ 0 → T.natAbs ≤ (A.tdiv G).natAbs ∨ T.natAbs ≤ 1
theorem natAbs_e {e a : Int} (h : e = 1 ∨ e = -1) : (e * a).natAbs = a.natAbs := by
  rcases h with h | h <;> rw [h] <;> simp
theorem side_mul (A S : Int) : A * (if A < 0 then -S else S) = (A.natAbs : Int) * S := by
  by_cases h : A < 0
  · rw [if_pos h, show (A.natAbs : Int) = -A by omega, Int.mul_neg, Int.neg_mul]
  · rw [if_neg h, show (A.natAbs : Int) = A by omega]
theorem div_of {A G d : Int} (hG : G ≠ 0) (h : (A.natAbs : Int) = G * d) : rz A G = 0 ∧ (A.tdiv G).natAbs = d.natAbs := by
  have hA : A = G * d ∨ A = G * -d := by
    rcases Int.natAbs_eq A with h1 | h1
    · left; rw [h1, h]
    · right; rw [h1, h, Int.mul_neg]
  unfold rz
  rw [if_neg hG]
  rcases hA with h1 | h1
  · rw [h1, Int.mul_tmod_right, Int.mul_tdiv_cancel_left d hG]; exact ⟨rfl, rfl⟩
  · rw [h1, Int.mul_tmod_right, Int.mul_tdiv_cancel_left (-d) hG, Int.natAbs_neg]; exact ⟨rfl, rfl⟩
theorem bez_all (A B : Int) : Bez A B (bz A.natAbs 1 0 B.natAbs 0 1).1 (bz A.natAbs 1 0 B.natAbs 0 1).2.1 (bz A.natAbs 1 0 B.natAbs 0 1).2.2 := by
  obtain ⟨s9, t9, e, a, b, c, d, h⟩ := bz_inv (X := A.natAbs) (Y := B.natAbs) _ A.natAbs 1 0 B.natAbs 0 1 (Nat.le_refl _) (IB_start (by omega) (by omega))
  generalize (bz A.natAbs 1 0 B.natAbs 0 1).1 = G at *
  generalize (bz A.natAbs 1 0 B.natAbs 0 1).2.1 = S at *
  generalize (bz A.natAbs 1 0 B.natAbs 0 1).2.2 = T at *
  have hx := h.ex
  have hy := h.ey
  rw [Int.zero_mul, Int.add_zero] at hx
  rw [Int.zero_mul, Int.zero_add] at hy
  have hSa : S.natAbs = a.natAbs := by rw [h.es0, natAbs_e h.sg]
  have hTc : T.natAbs = c.natAbs := by rw [h.et0, Int.natAbs_neg, natAbs_e h.sg]
  have pa := h.pa
  have pb := h.pb
  have pc := h.pc
  have pd := h.pd
  refine ⟨h.p0, ?_, ?_, ?_, ?_, ?_⟩
  · rw [side_mul, side_mul]; exact h.e0.symm
  · intro hG
    rw [hG, Int.zero_mul] at hx hy
    omega
  · intro hG; exact ⟨(div_of hG hx.symm).1, (div_of hG hy.symm).1⟩
  · intro hG
    rw [(div_of hG hy.symm).2, hSa]
    rcases h.gs with h1 | h1
    · left; omega
    · right; omega
  · intro hG
    rw [(div_of hG hx.symm).2, hTc]
    rcases h.gt with h1 | h1
    · left; omega
    · right; omega
theorem sz_le {z : Int} {N L : Nat} (h : N < 4294967296 ^ L) (hz : z.natAbs ≤ N) : Sz z L := ⟨Nat.lt_of_le_of_lt hz h⟩
theorem IB_sz {A B : Int} (sa : Sz A 30) (sb : Sz B 30) (r0 s0 t0 r1 s1 t1 : Int) (h : IBx A.natAbs B.natAbs r0 s0 t0 r1 s1 t1) : Sz r0 400000 ∧ Sz s0 400000 ∧ Sz t0 400000 ∧ Sz r1 400000 ∧ Sz s1 400000 ∧ Sz t1 400000 := by
  obtain ⟨e, a, b, c, d, h⟩ := h
  have hN : A.natAbs + B.natAbs + 1 < 4294967296 ^ 31 := by
    have h1 := sa.lt
    have h2 := sb.lt
    rw [Nat.pow_succ]
    generalize 4294967296 ^ 30 = P at *
    omega
  have pa := h.pa
  have pb := h.pb
  have pc := h.pc
  have pd := h.pd
  have p0 := h.p0
  have p1 := h.p1
  have la := h.la
  have lb := h.lb
  have lc := h.lc
  have ld := h.ld
  have l0 := h.l0
  have l1 := h.l1
  have hs0 : s0.natAbs = a.natAbs := by rw [h.es0, natAbs_e h.sg]
  have hs1 : s1.natAbs = b.natAbs := by rw [h.es1, Int.natAbs_neg, natAbs_e h.sg]
  have ht0 : t0.natAbs = c.natAbs := by rw [h.et0, Int.natAbs_neg, natAbs_e h.sg]
  have ht1 : t1.natAbs = d.natAbs := by rw [h.et1, natAbs_e h.sg]
  have up : ∀ z : Int, z.natAbs ≤ A.natAbs + B.natAbs + 1 → Sz z 400000 := fun z hz => (sz_le hN hz).mono (by decide)
  exact ⟨up _ (by omega), up _ (by omega), up _ (by omega), up _ (by omega), up _ (by omega), up _ (by omega)⟩
theorem bez_sz {A B : Int} (sa : Sz A 30) (sb : Sz B 30) : Sz (bz A.natAbs 1 0 B.natAbs 0 1).1 400000 ∧ Sz (bz A.natAbs 1 0 B.natAbs 0 1).2.1 400000 ∧ Sz (bz A.natAbs 1 0 B.natAbs 0 1).2.2 400000 := by
  obtain ⟨s9, t9, h⟩ := bz_inv (X := A.natAbs) (Y := B.natAbs) _ A.natAbs 1 0 B.natAbs 0 1 (Nat.le_refl _) (IB_start (by omega) (by omega))
  have h1 := IB_sz sa sb _ _ _ _ _ _ h
  exact ⟨h1.1, h1.2.1, h1.2.2.1⟩
theorem abs_side (A S : Int) : (if A < 0 then -S else S).natAbs = S.natAbs := by
  split
  · exact Int.natAbs_neg S
  · rfl
end Go.Proofs.YtmcnpiajnehnlabDoor
