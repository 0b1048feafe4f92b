/-
  Proved here: plain facts on a division limb by limb. No condition.
  Proved here: facts on rows beside one another, and what LeadingZeros32 answers.
-/
import Derived.Test.YtdfmmaehmngkhaaDoorDivMathAll
import Derived.Test.YtdfmmaehmngkhaaDoorBlendFnAll
import Derived.Test.YtdfmmaehmngkhaaDoorGuess
import Derived.Test.YtdfmmaehmngkhaaDoorLift
namespace Go.Proofs.YtdfmmaehmngkhaaDoor

/-- A limb of a quotient is taken off: what is left of the higher limbs, and of all. -/
theorem long_val {zs zs' : List Nat} {i : Nat} (hi : i ≤ zs.length) (hl : zs'.length = zs.length) (hlo : ∀ j, j < i → zs'.getD j 0 = zs.getD j 0) : val zs' + 4294967296 ^ i * val (zs.drop i) = val zs + 4294967296 ^ i * val (zs'.drop i) := by
  have e1 := val_split zs i hi
  have e2 := val_split zs' i (by omega)
  rw [low_congr hlo] at e2
  omega
/-- The higher limbs of a number that is small are noughts. -/
theorem low_small {xs : List Nat} (hx : limbs xs) {n : Nat} (h : val xs < 4294967296 ^ n) : low xs n = val xs := by
  have h1 := low_lt hx n
  rcases Nat.lt_or_ge n xs.length with hn | hn
  · have e := val_split xs n (by omega)
    rcases Nat.eq_zero_or_pos (val (xs.drop n)) with h0 | h0
    · rw [h0, Nat.mul_zero, Nat.add_zero] at e; exact e.symm
    · have := Nat.mul_le_mul_left (4294967296 ^ n) h0
      omega
  · exact low_all hn
/-- The limbs behind a segment are as they were, noughts: so the segment is all. -/
theorem seg_high {zs zs' : List Nat} {j m : Nat} (hz : limbs zs) (hj : j + m ≤ zs.length) (hl : zs'.length = zs.length) (hs : ∀ k, k < j ∨ j + m ≤ k → zs'.getD k 0 = zs.getD k 0) (h : val (zs.drop j) < 4294967296 ^ m) : val (zs'.drop j) = low (zs'.drop j) m := by
  have e1 := val_split (zs.drop j) m (by simp; omega)
  have e2 := val_split (zs'.drop j) m (by simp; omega)
  rw [low_small (limbs_drop hz j) h] at e1
  have h0 : val ((zs.drop j).drop m) = 0 := by
    rcases Nat.eq_zero_or_pos (val ((zs.drop j).drop m)) with h1 | h1
    · exact h1
    · have := Nat.mul_pos (Nat.pow_pos (n := m) (show 0 < 4294967296 by decide)) h1
      omega
  have h1 : val ((zs'.drop j).drop m) = val ((zs.drop j).drop m) := val_congr zs.length (by simp only [List.length_drop]; omega) (by simp only [List.length_drop]; omega) fun k => by
    rw [getD_drop, getD_drop, getD_drop, getD_drop]
    exact hs _ (Or.inr (by omega))
  rw [h1, h0, Nat.mul_zero, Nat.add_zero] at e2
  exact e2
/-- The guess was right. -/
theorem take_right {r r' b q M : Nat} (h : r' + b * q = r + M * 0) (hq : r < (q + 1) * b) : r' < b ∧ r' + q * b = r := by
  rw [Nat.mul_zero, Nat.add_zero, Nat.mul_comm b q] at h
  rw [Nat.add_mul, Nat.one_mul] at hq
  omega
/-- The guess was one too great. -/
theorem take_back {r r' r2 b q M c : Nat} (h : r' + b * q = r + M * 1) (hr' : r' < M) (h2 : r2 + M * c = r' + b) (hr2 : r2 < M) (hq : (q - 1) * b ≤ r) (hbM : b < M) : 1 ≤ q ∧ r2 < b ∧ r2 + (q - 1) * b = r := by
  have hq1 : 1 ≤ q := by
    rcases Nat.eq_zero_or_pos q with h0 | h0
    · subst h0; rw [Nat.mul_zero] at h; omega
    · exact h0
  obtain ⟨k, rfl⟩ : ∃ k, q = k + 1 := ⟨q - 1, by omega⟩
  rw [Nat.add_sub_cancel] at hq ⊢
  rw [Nat.mul_add, Nat.mul_one, Nat.mul_comm b k, Nat.mul_one] at h
  have hc : c = 1 := by
    rcases Nat.lt_or_ge c 1 with h3 | h3
    · have : c = 0 := by omega
      subst this
      rw [Nat.mul_zero, Nat.add_zero] at h2
      omega
    · rcases Nat.lt_or_ge 1 c with h4 | h4
      · have := Nat.mul_le_mul_left M h4
        omega
      · omega
  subst hc
  rw [Nat.mul_one] at h2
  omega
/-- One limb of the quotient more. -/
theorem long_quo {qs : List Nat} {i q : Nat} (hi : i < qs.length) : val ((qs.set i q).drop i) = q + 4294967296 * val (qs.drop (i + 1)) := by
  rw [val_tail ((qs.set i q).drop i), getD_drop, Nat.add_zero, getD_set_eq _ _ _ hi, List.tail_drop]
  congr 3
  exact List.drop_set_of_lt (by omega)
theorem long_inv {A P b r r' s s' q h : Nat} (h1 : A = h * (P * 4294967296) * b + s) (h2 : s' + P * r = s + P * r') (h3 : r' + q * b = r) : A = (q + 4294967296 * h) * P * b + s' := by
  have e1 : P * r = P * r' + P * (q * b) := by rw [← h3, Nat.mul_add]
  have e2 : (q + 4294967296 * h) * P * b = P * (q * b) + h * (P * 4294967296) * b := by
    rw [Nat.add_mul, Nat.add_mul]
    congr 1
    · rw [Nat.mul_comm q P, Nat.mul_assoc]
    · rw [Nat.mul_comm 4294967296 h, Nat.mul_assoc h, Nat.mul_comm 4294967296 P]
  omega
/-- Quotient and rest, in one way alone. -/
theorem long_end {A b q s : Nat} (h : A = q * b + s) (hs : s < b) : q = A / b ∧ s = A % b := by
  have hb : 0 < b := by omega
  constructor
  · rw [h, Nat.add_comm, Nat.add_mul_div_right _ _ hb, Nat.div_eq_of_lt hs, Nat.zero_add]
  · rw [h, Nat.add_comm, Nat.add_mul_mod_self_right, Nat.mod_eq_of_lt hs]
end Go.Proofs.YtdfmmaehmngkhaaDoor

namespace Go.Proofs.YtdfmmaehmngkhaaDoor
open Go.RowKit

theorem Cells.grown {g g' : Nat} {w w' : World} {zs : List Nat} (h : Cells w g zs) (hg : w.grownBy w' (some g')) (hne : g ≠ g') : Cells w' g zs :=
  ⟨h.1, by rw [hg.block g (Array.getElem?_eq_some_iff.1 h.2).1 (by simp only [ne_eq, Option.some.injEq]; exact hne)]; exact h.2⟩
theorem grownBy_one (w : World) (g k : Nat) (u : Value) : w.grownBy (w.setCell ⟨g, k, none⟩ u) (some g) := grownBy_set (World.grownBy.refl w _) k u
theorem Cells.seg {g off m cap : Nat} {w : World} {zs : List Nat} (h : Cells w g zs) (ho : off + m ≤ zs.length) (hm : m ≤ cap) (hc : cap ≤ 9223372036854775807) : Num w (.slice (some ⟨g, off, none⟩) m cap) ((zs.drop off).take m) := by
  have hl : ((zs.drop off).take m).length = m := by simp; omega
  refine ⟨limbs_take (limbs_drop h.1 off) m, some ⟨g, off, none⟩, cap, by rw [hl], by rw [hl]; exact hm, hc, fun e => by simp at e, fun j hj => ?_⟩
  rw [hl] at hj
  refine ⟨g, off, rfl, ?_⟩
  have := (h.cell (k := off + j) (by omega)).1
  rw [this]
  have e : ((zs.drop off).take m).getD j 0 = zs.getD (off + j) 0 := by
    rw [List.getD_eq_getElem?_getD, List.getElem?_take_of_lt hj, ← List.getD_eq_getElem?_getD, getD_drop]
  rw [e]; rfl
theorem seg_val {zs : List Nat} {off m : Nat} : val ((zs.drop off).take m) = low (zs.drop off) m := rfl

theorem lz_any (x : Int) (w : World) (h0 : 0 ≤ x) (h1 : x ≤ 4294967295) :
    Calls Tryd.prog 85 #[.int .u32 x] w fun e w' => e = .returned (.int .i64 ((32 - bl x.toNat : Nat) : Int)) ∧ w' = w := by
  have hb := bl_le32 (x := x.toNat) (by omega)
  go_enter Tryd.func85, Tryd.ntmps85
  go_wp2_with fail
  refine (len32_any _ _ h0 h1).mono ?_
  rintro e w1 ⟨rfl, rfl⟩
  obtain ⟨b, hbb⟩ : ∃ b, b = bl x.toNat := ⟨_, rfl⟩
  rw [← hbb] at hb ⊢
  have HB : Hid (b = bl x.toNat) := hbb
  clear hbb
  go_wp2
  go_ret
  exact ⟨ret_int (by rw [← HB.out]; omega), rfl⟩

/-- A divisor that was shifted so that its highest bit is set. -/
theorem norm_top {b : List Nat} {n v : Nat} (hb : limbs b) (hl : b.length = n + 1) (hv : val b = v) (h : 2 ^ (32 * n + 31) ≤ v) : 2147483648 ≤ b.getD n 0 := by
  have e := low_succ b n
  have hlo := low_lt hb n
  rw [low_all (by omega), hv] at e
  rcases Nat.lt_or_ge (b.getD n 0) 2147483648 with h1 | h1
  · have h2 : 4294967296 ^ n * (b.getD n 0 + 1) ≤ 4294967296 ^ n * 2147483648 := Nat.mul_le_mul_left _ h1
    rw [Nat.mul_add, Nat.mul_one] at h2
    have h3 : 2 ^ (32 * n + 31) = 4294967296 ^ n * 2147483648 := by rw [Nat.pow_add, ← pow_limb]
    omega
  · exact h1
theorem norm_big {v : Nat} (hv : v ≠ 0) {n t : Nat} (h : bl v = 32 * n + bl t) (ht : bl t ≤ 32) (ht0 : t ≠ 0) : 2 ^ (32 * n + 31) ≤ v * 2 ^ (32 - bl t) ∧ v * 2 ^ (32 - bl t) < 4294967296 ^ (n + 1) := by
  obtain ⟨m, e, h1, h2⟩ := bl_bounds hv
  obtain ⟨k, e2, _, _⟩ := bl_bounds ht0
  have hm : m + (32 - bl t) = 32 * n + 31 := by omega
  constructor
  · rw [← hm, Nat.pow_add]
    exact Nat.mul_le_mul_right _ h1
  · rw [pow_limb, show 32 * (n + 1) = (m + 1) + (32 - bl t) by omega, Nat.pow_add]
    exact Nat.mul_lt_mul_of_pos_right h2 (Nat.two_pow_pos _)
end Go.Proofs.YtdfmmaehmngkhaaDoor
