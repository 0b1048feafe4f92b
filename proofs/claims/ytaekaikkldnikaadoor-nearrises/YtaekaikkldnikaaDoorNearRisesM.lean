/-
  Proved here: a greater fraction has no lesser place; the order of floats of 32 bits; plain mathematics.
-/
import Derived.Test.YtaekaikkldnikaaDoorNearBackM
namespace Go.Proofs.YtaekaikkldnikaaDoor
open Ieee

theorem place_mono {p INF n D b n' D' b' : Nat} {past past' : Int} (h : PlaceOk p INF n D b past) (h' : PlaceOk p INF n' D' b' past') (hD : 0 < D) (hD' : 0 < D') (hle : n * D' ≤ n' * D) :
    b ≤ b' ∧ nearestF (b, past) ≤ nearestF (b', past') ∧ aboveF (b, past) ≤ aboveF (b', past') := by
  have fm : ∀ {x y : Nat}, x ≤ y → fval p x ≤ fval p y := fun {x y} h => by
    rcases Nat.lt_or_ge x y with h1 | h1
    · exact Nat.le_of_lt (fval_mono p h1)
    · rw [show x = y by omega]; exact Nat.le_refl _
  have hlt := h.lt
  have hlt' := h'.lt
  have up : ∀ {F : Nat}, n' < F * D' → n < F * D := fun {F} hF => by
    rcases Nat.lt_or_ge n (F * D) with h1 | h1
    · exact h1
    · exfalso
      have a1 := Nat.mul_le_mul_right D' h1
      have a2 := Nat.mul_lt_mul_of_pos_right hF hD
      rw [Nat.mul_right_comm] at a2
      omega
  have h1 : b ≤ b' := by
    rcases Nat.lt_or_ge b' b with h2 | h2
    · exfalso
      rcases Nat.lt_or_ge n' (fval p INF * D') with h3 | h3
      · have h4 := up (h'.next h3)
        have h5 := Nat.mul_le_mul_right D (fm (show b' + 1 ≤ b by omega))
        have h6 := h.le
        omega
      · have := (h'.far h3).1
        omega
    · exact h2
  have hn : nearestF (b, past) ≤ b + 1 := by unfold nearestF; split <;> simp
  have hn' : b' ≤ nearestF (b', past') := by unfold nearestF; split <;> simp
  have ha : aboveF (b, past) ≤ b + 1 := by unfold aboveF; split <;> simp
  have ha' : b' ≤ aboveF (b', past') := by unfold aboveF; split <;> simp
  rcases Nat.lt_or_ge b b' with h2 | h2
  · exact ⟨h1, by omega, by omega⟩
  obtain rfl : b = b' := by omega
  refine ⟨Nat.le_refl _, ?_, ?_⟩
  · by_cases hc : past = 3 ∨ past = 2 ∧ b % 2 = 1
    · have hc' : past' = 3 ∨ past' = 2 ∧ b % 2 = 1 := by
        rcases Nat.lt_or_ge n' (fval p INF * D') with h3 | h3
        · have h4 := up h3
          have hp0 : fval p b * D ≠ n := fun e => by
            have := (h.just h4).2 e
            omega
          have hpast := h.half h4 hp0
          obtain ⟨S, hS⟩ : ∃ S, S = fval p b + fval p (b + 1) := ⟨_, rfl⟩
          have hSb : fval p b + fval p b < S := by rw [hS]; have := fval_mono p (show b < b + 1 by omega); omega
          rw [← hS] at hpast
          have h5 : S * D ≤ n + n := by
            unfold cmpN at hpast
            split at hpast
            · omega
            · omega
          have h6 : S * D' ≤ n' + n' := by
            rcases Nat.lt_or_ge (n' + n') (S * D') with h7 | h7
            · exfalso
              have a1 := Nat.mul_lt_mul_of_pos_right h7 hD
              have a2 := Nat.mul_le_mul_right D' h5
              rw [Nat.add_mul] at a1 a2
              rw [Nat.mul_right_comm] at a1
              omega
            · exact h7
          have hp0' : fval p b * D' ≠ n' := fun e => by
            have a1 := Nat.mul_lt_mul_of_pos_right hSb hD'
            rw [Nat.add_mul] at a1
            omega
          have hpast' := h'.half h3 hp0'
          rw [← hS] at hpast'
          rcases hc with hc | ⟨hc, ho⟩
          · refine Or.inl ?_
            have h8 : S * D < n + n := by
              unfold cmpN at hpast
              split at hpast
              · omega
              · split at hpast
                · omega
                · omega
            have h9 : S * D' < n' + n' := by
              rcases Nat.lt_or_ge (S * D') (n' + n') with h7 | h7
              · exact h7
              · exfalso
                have a1 := Nat.mul_le_mul_right D h7
                have a2 := Nat.mul_lt_mul_of_pos_right h8 hD'
                rw [Nat.add_mul] at a1 a2
                rw [Nat.mul_right_comm] at a2
                omega
            unfold cmpN at hpast'
            rw [if_neg (by omega), if_neg (by omega)] at hpast'
            exact hpast'
          · unfold cmpN at hpast'
            rw [if_neg (by omega)] at hpast'
            split at hpast'
            · exact Or.inr ⟨by omega, ho⟩
            · exact Or.inl (by omega)
        · exact Or.inl (h'.far h3).2
      have e1 : nearestF (b, past') = b + 1 := by unfold nearestF; exact if_pos hc'
      omega
    · have e1 : nearestF (b, past) = b := by unfold nearestF; exact if_neg hc
      omega
  · by_cases hc : past' = 0
    · have h3 : n' < fval p INF * D' := by
        rcases Nat.lt_or_ge n' (fval p INF * D') with h3 | h3
        · exact h3
        · have := (h'.far h3).2; omega
      have h4 := up h3
      have h5 := (h'.just h3).1 hc
      have h6 : past = 0 := by
        refine (h.just h4).2 (Nat.le_antisymm h.le ?_)
        rcases Nat.lt_or_ge (fval p b * D) n with h7 | h7
        · exfalso
          have a1 := Nat.mul_lt_mul_of_pos_right h7 hD'
          rw [Nat.mul_right_comm, h5] at a1
          omega
        · exact h7
      have e1 : aboveF (b, past) = b := by unfold aboveF; exact if_pos h6
      omega
    · have e1 : aboveF (b, past') = b + 1 := by unfold aboveF; exact if_neg hc
      omega

theorem find_mono {d : Nat} {l t : Int} (hd : 0 < d) (hl : l ≤ 0) (ht : (d : Int) + l ≤ t) (ht0 : 0 ≤ t) {N D N' D' : Nat} (hD : D ≠ 0) (hD' : D' ≠ 0) (h : N * D' ≤ N' * D) :
    (findF d l t N D).1 ≤ (findF d l t N' D').1 ∧ nearestF (findF d l t N D) ≤ nearestF (findF d l t N' D') ∧ aboveF (findF d l t N D) ≤ aboveF (findF d l t N' D') := by
  refine place_mono (find_ok hD hd hl ht ht0) (find_ok hD' hd hl ht ht0) (Nat.pos_of_ne_zero hD) (Nat.pos_of_ne_zero hD') ?_
  rw [Nat.mul_right_comm, Nat.mul_right_comm N']
  exact Nat.mul_le_mul_right _ h

/-- The value of a float of 32 bits, in units of the least one above 0. -/
def fvs (b : Nat) : Int := zv (decide (2 ^ 31 ≤ b)) (fval 23 (b % 2 ^ 31))
theorem sread_infs {b : Nat} (hb : b < 4294967296) (h : b % 2 ^ 31 = 2139095040) : single.read b = .infinity (decide (2 ^ 31 ≤ b)) := by
  have h4 : b = 2139095040 ∨ b = 2 ^ 31 + 2139095040 := by omega
  rcases h4 with rfl | rfl <;> decide
theorem order_fvs {b c : Nat} (hb : b < 4294967296) (hc : c < 4294967296) (h1 : b % 2 ^ 31 ≤ 2139095040) (h2 : c % 2 ^ 31 ≤ 2139095040) :
    single.order b c = some (compare (fvs b) (fvs c)) := by
  unfold Format.order fvs
  generalize hs : decide (2 ^ 31 ≤ b) = s
  generalize ht : decide (2 ^ 31 ≤ c) = t
  rcases Nat.lt_or_ge (b % 2 ^ 31) 2139095040 with k1 | k1
  · obtain ⟨m, e, a1, a2, a3⟩ := sread_fval hb k1
    rw [a1, hs]
    have v1 := fval_mono 23 k1
    rcases Nat.lt_or_ge (c % 2 ^ 31) 2139095040 with k2 | k2
    · obtain ⟨n, f, b1, b2, b3⟩ := sread_fval hc k2
      rw [b1, ht, order_at a2 b2, signed_val, signed_val, show e - -149 = e + 149 by omega, show f - -149 = f + 149 by omega, a3, b3]
      rfl
    · have k3 : c % 2 ^ 31 = 2139095040 := by omega
      rw [sread_infs hc k3, ht, k3]
      obtain ⟨x, hx⟩ : ∃ x, x = fval 23 (b % 2 ^ 31) := ⟨_, rfl⟩
      obtain ⟨y, hy⟩ : ∃ x, x = fval 23 2139095040 := ⟨_, rfl⟩
      rw [← hx, ← hy] at v1 ⊢
      have z := zv_bd s x
      cases t
      · rw [cmp_val (by show _ < (y : Int); omega)]; rfl
      · rw [cmp_val_gt (by show -(y : Int) < _; omega)]; rfl
  · have k4 : b % 2 ^ 31 = 2139095040 := by omega
    rw [sread_infs hb k4, hs, k4]
    rcases Nat.lt_or_ge (c % 2 ^ 31) 2139095040 with k2 | k2
    · obtain ⟨n, f, b1, b2, b3⟩ := sread_fval hc k2
      rw [b1, ht]
      have v1 := fval_mono 23 k2
      obtain ⟨x, hx⟩ : ∃ x, x = fval 23 (c % 2 ^ 31) := ⟨_, rfl⟩
      obtain ⟨y, hy⟩ : ∃ x, x = fval 23 2139095040 := ⟨_, rfl⟩
      rw [← hx, ← hy] at v1 ⊢
      have z := zv_bd t x
      cases s
      · rw [cmp_val_gt (by show _ < (y : Int); omega)]; rfl
      · rw [cmp_val (by show -(y : Int) < _; omega)]; rfl
    · have k3 : c % 2 ^ 31 = 2139095040 := by omega
      rw [sread_infs hc k3, ht, k3]
      have v1 := fval_mono 23 (show 0 < 2139095040 by decide)
      obtain ⟨y, hy⟩ : ∃ x, x = fval 23 2139095040 := ⟨_, rfl⟩
      rw [← hy] at v1 ⊢
      have e2 : ∀ x y : Int, compare x y = if x < y then .lt else if x = y then .eq else .gt := fun _ _ => rfl
      cases s <;> cases t
      · rw [e2, if_neg (by omega), if_pos rfl]; rfl
      · rw [cmp_val_gt (by unfold zv; simp; omega)]; rfl
      · rw [cmp_val (by unfold zv; simp; omega)]; rfl
      · rw [e2, if_neg (by omega), if_pos rfl]; rfl
end Go.Proofs.YtaekaikkldnikaaDoor
