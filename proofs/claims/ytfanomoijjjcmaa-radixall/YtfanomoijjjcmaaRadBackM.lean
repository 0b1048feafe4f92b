/-
  Proved here: plain mathematics: the digits of the next place. No condition.
-/
import Derived.Test.YtfanomoijjjcmaaRadMath
namespace Go.Proofs.Ytfanomoijjjcmaa

theorem mod_of {c s q r : Int} (h : c = s * q + r) (h0 : 0 ≤ r) (h1 : r < s) : c % s = r := by
  rw [h, Int.add_comm, Int.add_mul_emod_self_left, Int.emod_eq_of_lt h0 h1]
theorem pred_zero {c s : Int} (hs : 1 ≤ s) (h : c % s = 0) : (c - 1) % s = s - 1 := by
  have e := Int.mul_ediv_add_emod c s
  refine mod_of (q := c / s - 1) ?_ (by omega) (by omega)
  rw [Int.mul_sub, Int.mul_one]; omega
theorem pred_pos {c s : Int} (hs : 1 ≤ s) (h : c % s ≠ 0) : (c - 1) % s + 1 = c % s := by
  have e := Int.mul_ediv_add_emod c s
  have a := Int.emod_nonneg c (show s ≠ 0 by omega)
  have b := Int.emod_lt_of_pos c (show 0 < s by omega)
  have := mod_of (c := c - 1) (s := s) (q := c / s) (r := c % s - 1) (by omega) (by omega) (by omega)
  omega
theorem div_pred {a c P : Int} (hP : 1 ≤ P) (h : a + 1 = c * P) : a / P = c - 1 := by
  have e : a = (P - 1) + (c - 1) * P := by rw [Int.sub_mul, Int.one_mul]; omega
  rw [e, Int.add_mul_ediv_right _ _ (by omega), Int.ediv_eq_zero_of_lt (by omega) (by omega)]; omega
theorem div_same {a P : Int} (hP : 1 ≤ P) (h : ¬ P ∣ a + 1) : (a + 1) / P = a / P := by
  have e := Int.mul_ediv_add_emod a P
  have x := Int.emod_nonneg a (show P ≠ 0 by omega)
  have y := Int.emod_lt_of_pos a (show 0 < P by omega)
  have hne : a % P + 1 ≠ P := fun hh => h ⟨a / P + 1, by rw [Int.mul_add, Int.mul_one]; omega⟩
  have e2 : a + 1 = (a % P + 1) + (a / P) * P := by rw [Int.mul_comm (a / P) P]; omega
  have e3 : ((a % P + 1) + (a / P) * P) / P = a / P := by rw [Int.add_mul_ediv_right _ _ (by omega), Int.ediv_eq_zero_of_lt (by omega) (by omega)]; omega
  rw [e2, e3]
section
variable {ss : List Int} {a : Int}
theorem next_core (h1 : ∀ z ∈ ss, 1 ≤ z) {i : Nat} (hi : i < ss.length) (hd : pr (ss.drop (i + 1)) ∣ a + 1) :
    1 ≤ ss.getD i 0 ∧ 1 ≤ pr (ss.drop (i + 1)) ∧ ∃ c, a + 1 = c * pr (ss.drop (i + 1)) ∧ digAt ss a i = (c - 1) % ss.getD i 0 ∧ digAt ss (a + 1) i = c % ss.getD i 0 := by
  have hP := (pr_drop_le ss h1 (i + 1)).1
  have hs : 1 ≤ ss.getD i 0 := by rw [List.getD_eq_getElem?_getD, List.getElem?_eq_getElem hi]; exact h1 _ (List.getElem_mem hi)
  obtain ⟨c, hc⟩ := hd
  rw [Int.mul_comm] at hc
  refine ⟨hs, hP, c, hc, ?_, ?_⟩
  · rw [digAt, div_pred hP hc]
  · rw [digAt, hc, Int.mul_ediv_cancel _ (by omega)]
theorem next_nine (h1 : ∀ z ∈ ss, 1 ≤ z) {i : Nat} (hi : i < ss.length) (hd : pr (ss.drop (i + 1)) ∣ a + 1) (h : digAt ss a i = ss.getD i 0 - 1) : pr (ss.drop i) ∣ a + 1 ∧ digAt ss (a + 1) i = 0 := by
  obtain ⟨hs, hP, c, hc, e1, e2⟩ := next_core h1 hi hd
  rw [e1] at h
  have h0 : c % ss.getD i 0 = 0 := by
    by_cases hz : c % ss.getD i 0 = 0
    · exact hz
    · have := pred_pos hs hz
      have b := Int.emod_lt_of_pos c (show 0 < ss.getD i 0 by omega)
      omega
  refine ⟨?_, by rw [e2, h0]⟩
  rw [pr_drop ss i hi]
  obtain ⟨d, hd⟩ := Int.dvd_of_emod_eq_zero h0
  exact ⟨d, by rw [hc, hd, Int.mul_assoc, Int.mul_assoc, Int.mul_comm d]⟩
theorem next_more (h1 : ∀ z ∈ ss, 1 ≤ z) {i : Nat} (hi : i < ss.length) (hd : pr (ss.drop (i + 1)) ∣ a + 1) (h : digAt ss a i ≠ ss.getD i 0 - 1) : ¬ pr (ss.drop i) ∣ a + 1 ∧ digAt ss (a + 1) i = digAt ss a i + 1 := by
  obtain ⟨hs, hP, c, hc, e1, e2⟩ := next_core h1 hi hd
  rw [e1] at h
  have h0 : c % ss.getD i 0 ≠ 0 := fun hz => h (pred_zero hs hz)
  refine ⟨?_, by rw [e2, e1, pred_pos hs h0]⟩
  rw [pr_drop ss i hi]
  rintro ⟨d, hd2⟩
  apply h0
  rw [hc] at hd2
  have : c = ss.getD i 0 * d := Int.eq_of_mul_eq_mul_right (a := pr (ss.drop (i + 1))) (by omega) (by rw [hd2, Int.mul_assoc, Int.mul_assoc, Int.mul_comm d])
  rw [this]; exact Int.mul_emod_right _ _
theorem drop_dvd (ss : List Int) (i : Nat) : ∀ k, pr (ss.drop (i + k)) ∣ pr (ss.drop i)
  | 0 => ⟨1, by rw [Int.mul_one]; rfl⟩
  | k + 1 => by
    refine Int.dvd_trans ?_ (drop_dvd ss i k)
    by_cases h : i + k < ss.length
    · rw [pr_drop ss (i + k) h]; exact ⟨ss.getD (i + k) 0, by rw [Int.mul_comm]; rfl⟩
    · rw [List.drop_of_length_le (by omega), List.drop_of_length_le (by omega)]; exact Int.dvd_refl _
theorem next_same (h1 : ∀ z ∈ ss, 1 ≤ z) {i j : Nat} (hj : j < i) (h : ¬ pr (ss.drop i) ∣ a + 1) : digAt ss (a + 1) j = digAt ss a j := by
  unfold digAt
  rw [div_same (pr_drop_le ss h1 (j + 1)).1]
  intro hh
  have := drop_dvd ss (j + 1) (i - (j + 1))
  rw [show j + 1 + (i - (j + 1)) = i by omega] at this
  exact h (Int.dvd_trans this hh)
theorem last_dvd (ss : List Int) (a : Int) : pr (ss.drop ss.length) ∣ a + 1 := by rw [List.drop_length]; exact ⟨a + 1, by simp [pr]⟩
theorem last_all (h1 : ∀ z ∈ ss, 1 ≤ z) (h : a + 1 = pr ss) (i : Nat) (hi : i < ss.length) : digAt ss a i = ss.getD i 0 - 1 := by
  have hd : ∀ k, pr (ss.drop k) ∣ a + 1 := fun k => by
    rw [h]; have := drop_dvd ss 0 k; rw [Nat.zero_add, List.drop_zero] at this; exact this
  by_cases e : digAt ss a i = ss.getD i 0 - 1
  · exact e
  · exact absurd (hd i) (next_more h1 hi (hd (i + 1)) e).1
end
/-- Bases from 1 to 9, at most 7. -/
def bs (l : List Int) : List Int := (l.take 7).map fun z => z % 9 + 1
theorem bs_get (l : List Int) (i : Nat) (h : i < (bs l).length) : (bs l).getD i 0 = l.getD i 0 % 9 + 1 := by
  have h2 : i < 7 ∧ i < l.length := by simp [bs] at h; omega
  simp [bs, List.getD_eq_getElem?_getD, h2.1, h2.2]
theorem bs_mem (l : List Int) : ∀ z ∈ bs l, 1 ≤ z ∧ z ≤ 9 := fun z hz => by
  obtain ⟨y, _, rfl⟩ := List.mem_map.1 hz
  omega
theorem bs_len (l : List Int) : (bs l).length ≤ 7 ∧ (bs l).length ≤ l.length := by simp [bs]; omega
theorem pr_pow (zs : List Int) (h : ∀ z ∈ zs, 1 ≤ z ∧ z ≤ 9) : pr zs ≤ 9 ^ zs.length := by
  induction zs with
  | nil => simp [pr]
  | cons z r ih =>
    have h1 := ih fun y hy => h y (List.mem_cons_of_mem _ hy)
    have h2 := h z (List.mem_cons_self ..)
    have h3 := pr_pos r fun y hy => (h y (List.mem_cons_of_mem _ hy)).1
    rw [pr, List.length_cons, Int.pow_succ, Int.mul_comm]
    exact Int.mul_le_mul h1 h2.2 (by omega) (Int.pow_nonneg (by omega))
theorem pow9 (n : Nat) (h : n ≤ 7) : (9 : Int) ^ n ≤ 4782969 := by
  have : n = 0 ∨ n = 1 ∨ n = 2 ∨ n = 3 ∨ n = 4 ∨ n = 5 ∨ n = 6 ∨ n = 7 := by omega
  rcases this with rfl | rfl | rfl | rfl | rfl | rfl | rfl | rfl <;> decide
theorem pr_bs (zs : List Int) (h : ∀ z ∈ zs, 1 ≤ z ∧ z ≤ 9) (hl : zs.length ≤ 7) : 1 ≤ pr zs ∧ pr zs ≤ 4782969 :=
  ⟨pr_pos zs fun z hz => (h z hz).1, Int.le_trans (pr_pow zs h) (pow9 _ hl)⟩
theorem negs_bs (zs : List Int) (h : ∀ z ∈ zs, 1 ≤ z ∧ z ≤ 9) : negs zs = false := by
  unfold negs
  rw [List.any_eq_false]
  intro z hz
  have := (h z hz).1
  simp [isNeg]; omega
theorem cnt_bs (zs : List Int) (h : ∀ z ∈ zs, 1 ≤ z ∧ z ≤ 9) (hl : zs.length ≤ 7) : cntE zs = 0 ∧ cntN zs = pr zs :=
  cnt_ok (negs_bs zs h) (by have := (pr_bs zs h hl).2; omega)
end Go.Proofs.Ytfanomoijjjcmaa
