/-
  Proved here: plain mathematics: the place of a fraction among floats is that of the greatest float that is not above it.
-/
import Derived.Test.YtaekaikkldnikaaNearMathAll
namespace Go.Proofs.Ytaekaikkldnikaa

/-- The value of the float of these bits, in units of the least float above 0. -/
def fval (p b : Nat) : Nat := if b / 2 ^ p = 0 then b % 2 ^ p else (b % 2 ^ p + 2 ^ p) * 2 ^ (b / 2 ^ p - 1)

theorem fval_units {p u k : Nat} (h1 : u ≤ 2 ^ (p + 1)) (h2 : k = 0 ∨ 2 ^ p ≤ u) : fval p (u + k * 2 ^ p) = u * 2 ^ k := by
  have hp : 0 < 2 ^ p := Nat.two_pow_pos p
  have hs : (2 : Nat) ^ (p + 1) = 2 * 2 ^ p := by rw [Nat.pow_succ, Nat.mul_comm]
  rw [hs] at h1
  unfold fval
  obtain ⟨P, hP⟩ : ∃ P, P = 2 ^ p := ⟨_, rfl⟩
  rw [← hP] at h1 h2 hp ⊢
  have hd : (u + k * P) / P = u / P + k := by rw [Nat.add_mul_div_right _ _ hp]
  have hm : (u + k * P) % P = u % P := by rw [Nat.add_mul_mod_self_right]
  rw [hd, hm]
  have hdm := Nat.div_add_mod u P
  rcases Nat.lt_or_ge u P with hu | hu
  · have hk : k = 0 := by omega
    subst hk
    rw [Nat.div_eq_of_lt hu, Nat.mod_eq_of_lt hu]
    simp
  · rcases Nat.lt_or_ge u (2 * P) with hu2 | hu2
    · have e1 : u / P = 1 := Nat.div_eq_of_lt_le (by omega) (by omega)
      rw [e1] at hdm ⊢
      rw [if_neg (by omega), show 1 + k - 1 = k by omega]
      congr 1
      omega
    · have e0 : u = 2 * P := by omega
      have e1 : u / P = 2 := by rw [e0]; exact Nat.mul_div_cancel _ hp
      have e2 : u % P = 0 := by rw [e0]; exact Nat.mul_mod_left _ _
      rw [e1, e2, if_neg (by omega), show 2 + k - 1 = k + 1 by omega, e0, Nat.pow_succ, Nat.zero_add, Nat.mul_comm (2 ^ k) 2, ← Nat.mul_assoc, Nat.mul_comm P 2]

/-- Every number of bits is units and steps. -/
theorem bits_units (p b : Nat) : ∃ u k, b = u + k * 2 ^ p ∧ u < 2 ^ (p + 1) ∧ (k = 0 ∨ 2 ^ p ≤ u) := by
  have hp : 0 < 2 ^ p := Nat.two_pow_pos p
  have hs : (2 : Nat) ^ (p + 1) = 2 * 2 ^ p := by rw [Nat.pow_succ, Nat.mul_comm]
  rw [hs]
  have hdm := Nat.div_add_mod b (2 ^ p)
  have hml := Nat.mod_lt b hp
  obtain ⟨P, hP⟩ : ∃ P, P = 2 ^ p := ⟨_, rfl⟩
  rw [← hP] at hdm hml hp ⊢
  rcases Nat.eq_zero_or_pos (b / P) with h0 | h0
  · refine ⟨b, 0, by simp, ?_, Or.inl rfl⟩
    rw [h0] at hdm
    omega
  · obtain ⟨q, hq⟩ : ∃ q, b / P = q + 1 := ⟨b / P - 1, by omega⟩
    refine ⟨P + b % P, q, ?_, by omega, Or.inr (by omega)⟩
    rw [hq, Nat.mul_add, Nat.mul_one, Nat.mul_comm] at hdm
    omega

theorem fval_step (p b : Nat) : fval p b < fval p (b + 1) := by
  obtain ⟨u, k, rfl, h1, h2⟩ := bits_units p b
  rw [fval_units (by omega) h2, show u + k * 2 ^ p + 1 = (u + 1) + k * 2 ^ p by omega, fval_units (by omega) (h2.imp id (by omega)), Nat.add_mul]
  have := Nat.two_pow_pos k
  omega

theorem fval_mono (p : Nat) {a b : Nat} (h : a < b) : fval p a < fval p b := by
  obtain ⟨n, rfl⟩ : ∃ n, b = a + 1 + n := ⟨b - a - 1, by omega⟩
  clear h
  induction n with
  | zero => exact fval_step p a
  | succ n ih => exact Nat.lt_trans ih (fval_step p _)

theorem lead_lo {N D : Nat} (hN : N ≠ 0) (hD : D ≠ 0) : up D (leadF N D) ≤ up N (-leadF N D) := by
  unfold leadF
  split
  · obtain ⟨a, ea, h1, _⟩ := bl_bounds hN
    obtain ⟨b, eb, _, h4⟩ := bl_bounds hD
    have h : ¬ up N (-((bl N : Int) - bl D - 1)) < up D ((bl N : Int) - bl D - 1) := by
      rw [lt_scale (c := a + 1) (by omega), ea, eb]
      have e : (((a + 1 : Nat) : Int) - (((a + 1 : Nat) : Int) - ((b + 1 : Nat) : Int) - 1)).toNat = b + 2 := by omega
      rw [e]
      have h5 : D * 2 ^ (a + 1) ≤ 2 ^ (b + 1) * 2 ^ (a + 1) := Nat.mul_le_mul_right _ (Nat.le_of_lt h4)
      have h6 : 2 ^ a * 2 ^ (b + 2) ≤ N * 2 ^ (b + 2) := Nat.mul_le_mul_right _ h1
      have h7 : (2 : Nat) ^ a * 2 ^ (b + 2) = 2 ^ (b + 1) * 2 ^ (a + 1) := by rw [← Nat.pow_add, ← Nat.pow_add]; congr 1; omega
      omega
    omega
  · omega

theorem le_scale {N D : Nat} {k : Int} {c : Nat} (hc : k.toNat ≤ c) : up D k ≤ up N (-k) ↔ D * 2 ^ c ≤ N * 2 ^ ((c : Int) - k).toNat := by
  have := lt_scale (N := N) (D := D) (k := k) hc
  omega

/-- The units of a float that is not subnormal fill all its digits. -/
theorem units_ge {N D d : Nat} {l : Int} (hN : N ≠ 0) (hD : D ≠ 0) (hd : 0 < d) (he : l < expF d l N D) : 2 ^ (d - 1) ≤ unitsF d l N D := by
  unfold unitsF
  have hx : expF d l N D = leadF N D + 1 - d := by unfold expF at he ⊢; omega
  rw [hx]
  obtain ⟨e, hee⟩ : ∃ e, e = leadF N D + 1 - d := ⟨_, rfl⟩
  have hlead : leadF N D = e + ((d - 1 : Nat) : Int) := by omega
  have h := lead_lo hN hD
  rw [hlead] at h
  rw [← hee]
  rw [Nat.le_div_iff_mul_le (up_pos hD e)]
  obtain ⟨c, hc⟩ : ∃ c : Nat, c = max e.toNat (e + ((d - 1 : Nat) : Int)).toNat := ⟨_, rfl⟩
  rw [le_scale (c := c) (by omega)] at h
  have h3 : 2 ^ (d - 1) * up D e ≤ up N (-e) ↔ up (D * 2 ^ (d - 1)) e ≤ up N (-e) := by
    have : 2 ^ (d - 1) * up D e = up (D * 2 ^ (d - 1)) e := by
      unfold up
      rw [Nat.mul_comm (2 ^ (d - 1)), Nat.mul_assoc, Nat.mul_assoc, Nat.mul_comm (2 ^ e.toNat)]
    rw [this]
  rw [h3, le_scale (c := c) (by omega)]
  have e1 : ((c : Int) - e).toNat = ((c : Int) - (e + ((d - 1 : Nat) : Int))).toNat + (d - 1) := by omega
  rw [e1, Nat.pow_add, ← Nat.mul_assoc, Nat.mul_right_comm]
  exact Nat.mul_le_mul_right _ h

/-- What the division leaves, in units of the least float. -/
theorem units_place {N D d : Nat} {l : Int} (hD : D ≠ 0) (hl : l ≤ 0) :
    ∃ s, N * 2 ^ (-l).toNat = unitsF d l N D * 2 ^ (expF d l N D - l).toNat * D + restF d l N D * 2 ^ s ∧ up D (expF d l N D) * 2 ^ s = 2 ^ (expF d l N D - l).toNat * D ∧ restF d l N D < up D (expF d l N D) := by
  have hle : l ≤ expF d l N D := by unfold expF; omega
  unfold unitsF restF
  obtain ⟨e, he⟩ : ∃ e, e = expF d l N D := ⟨_, rfl⟩
  rw [← he] at hle ⊢
  have hpos := up_pos hD e
  have hdm := Nat.div_add_mod (up N (-e)) (up D e)
  obtain ⟨s, hs⟩ : ∃ s : Nat, s = (-l).toNat - (-e).toNat := ⟨_, rfl⟩
  have e1 : N * 2 ^ (-l).toNat = up N (-e) * 2 ^ s := by
    unfold up
    rw [Nat.mul_assoc, ← Nat.pow_add]
    congr 2
    omega
  have e2 : up D e * 2 ^ s = 2 ^ (e - l).toNat * D := by
    unfold up
    rw [Nat.mul_assoc, ← Nat.pow_add, Nat.mul_comm]
    congr 2
    omega
  refine ⟨s, ?_, e2, Nat.mod_lt _ hpos⟩
  rw [e1]
  conv => lhs; rw [← hdm]
  rw [Nat.add_mul, Nat.mul_comm (up D e), Nat.mul_assoc, e2, ← Nat.mul_assoc]

theorem below_val {N D d : Nat} {l : Int} (hN : N ≠ 0) (hD : D ≠ 0) (hd : 0 < d) : fval (d - 1) (belowF d l N D) = unitsF d l N D * 2 ^ (expF d l N D - l).toNat ∧ fval (d - 1) (belowF d l N D + 1) = (unitsF d l N D + 1) * 2 ^ (expF d l N D - l).toNat := by
  have hu := units_lt (d := d) (l := l) hN hD
  have hs : d - 1 + 1 = d := by omega
  have hk : (expF d l N D - l).toNat = 0 ∨ 2 ^ (d - 1) ≤ unitsF d l N D := by
    by_cases h : l < expF d l N D
    · exact Or.inr (units_ge hN hD hd h)
    · left; omega
  unfold belowF
  refine ⟨fval_units (by rw [hs]; omega) hk, ?_⟩
  rw [show unitsF d l N D + (expF d l N D - l).toNat * 2 ^ (d - 1) + 1 = (unitsF d l N D + 1) + (expF d l N D - l).toNat * 2 ^ (d - 1) by omega]
  exact fval_units (by rw [hs]; omega) (hk.imp id (by omega))

/-- The float below is not above, the next one is. -/
theorem below_floor {N D d : Nat} {l : Int} (hN : N ≠ 0) (hD : D ≠ 0) (hd : 0 < d) (hl : l ≤ 0) :
    fval (d - 1) (belowF d l N D) * D ≤ N * 2 ^ (-l).toNat ∧ N * 2 ^ (-l).toNat < fval (d - 1) (belowF d l N D + 1) * D := by
  obtain ⟨h1, h2⟩ := below_val (l := l) hN hD hd
  obtain ⟨s, h3, h4, h5⟩ := units_place (N := N) (d := d) hD hl
  rw [h1, h2, h3]
  have h6 : restF d l N D * 2 ^ s < up D (expF d l N D) * 2 ^ s := Nat.mul_lt_mul_of_pos_right h5 (Nat.two_pow_pos _)
  rw [h4] at h6
  rw [Nat.add_mul, Nat.one_mul, Nat.add_mul]
  omega

theorem cmpN_scale {a x y m : Nat} (hm : 0 < m) : cmpN (a + x * m) (a + y * m) = cmpN x y := by
  rcases Nat.lt_trichotomy x y with h | h | h
  · rw [cmpN_lt h, cmpN_lt (Nat.add_lt_add_left (Nat.mul_lt_mul_of_pos_right h hm) a)]
  · rw [h, cmpN_eq, cmpN_eq]
  · rw [cmpN_gt h, cmpN_gt (Nat.add_lt_add_left (Nat.mul_lt_mul_of_pos_right h hm) a)]

/-- How far it is on the way to the next float. -/
theorem below_half {N D d : Nat} {l : Int} (hN : N ≠ 0) (hD : D ≠ 0) (hd : 0 < d) (hl : l ≤ 0) :
    cmpN (N * 2 ^ (-l).toNat + N * 2 ^ (-l).toNat) ((fval (d - 1) (belowF d l N D) + fval (d - 1) (belowF d l N D + 1)) * D) = cmpN (up (restF d l N D) 1) (up D (expF d l N D)) := by
  obtain ⟨h1, h2⟩ := below_val (l := l) hN hD hd
  obtain ⟨s, h3, h4, h5⟩ := units_place (N := N) (d := d) hD hl
  rw [h1, h2, h3]
  obtain ⟨A, hA⟩ : ∃ A, A = unitsF d l N D * 2 ^ (expF d l N D - l).toNat * D := ⟨_, rfl⟩
  have e1 : (unitsF d l N D * 2 ^ (expF d l N D - l).toNat + (unitsF d l N D + 1) * 2 ^ (expF d l N D - l).toNat) * D = (A + A) + up D (expF d l N D) * 2 ^ s := by
    rw [h4, Nat.add_mul (unitsF d l N D), Nat.one_mul, Nat.add_mul, Nat.add_mul, ← hA]
    omega
  have e2 : unitsF d l N D * 2 ^ (expF d l N D - l).toNat * D + restF d l N D * 2 ^ s + (unitsF d l N D * 2 ^ (expF d l N D - l).toNat * D + restF d l N D * 2 ^ s) = (A + A) + up (restF d l N D) 1 * 2 ^ s := by
    rw [← hA]
    unfold up
    rw [show (1 : Int).toNat = 1 from rfl, Nat.pow_one, Nat.mul_comm (restF d l N D) 2, Nat.mul_assoc]
    omega
  rw [e1, e2]
  exact cmpN_scale (Nat.two_pow_pos s)

theorem below_just {N D d : Nat} {l : Int} (hN : N ≠ 0) (hD : D ≠ 0) (hd : 0 < d) (hl : l ≤ 0) :
    fval (d - 1) (belowF d l N D) * D = N * 2 ^ (-l).toNat ↔ restF d l N D = 0 := by
  obtain ⟨h1, _⟩ := below_val (l := l) hN hD hd
  obtain ⟨s, h3, _, _⟩ := units_place (N := N) (d := d) hD hl
  rw [h1, h3]
  constructor
  · intro h
    have h6 : restF d l N D * 2 ^ s = 0 := by omega
    rcases Nat.mul_eq_zero.1 h6 with h7 | h7
    · exact h7
    · have := Nat.two_pow_pos s; omega
  · intro h
    rw [h, Nat.zero_mul]; omega

theorem inf_val {d : Nat} {l t : Int} (hd : 0 < d) (ht : (d : Int) + l ≤ t) : fval (d - 1) (infF d l t) = 2 ^ (t - l).toNat := by
  unfold infF
  have hs : d - 1 + 1 = d := by omega
  rw [fval_units (by rw [hs]; exact Nat.le_refl _) (Or.inr (Nat.pow_le_pow_right (by decide) (by omega))), ← Nat.pow_add]
  congr 1
  omega

/-- The place that is told is right: of the size n / D in units of the least float. -/
structure PlaceOk (p INF n D b : Nat) (past : Int) : Prop where
  lt : b < INF
  le : fval p b * D ≤ n
  far : fval p INF * D ≤ n → b = INF - 1 ∧ past = 3
  next : n < fval p INF * D → n < fval p (b + 1) * D
  just : n < fval p INF * D → (past = 0 ↔ fval p b * D = n)
  half : n < fval p INF * D → fval p b * D ≠ n → past = 2 + cmpN (n + n) ((fval p b + fval p (b + 1)) * D)

theorem divide_ok {N D d : Nat} {l t : Int} (hN : N ≠ 0) (hD : D ≠ 0) (hd : 0 < d) (hl : l ≤ 0) (hi : 0 < infF d l t) :
    PlaceOk (d - 1) (infF d l t) (N * 2 ^ (-l).toNat) D (divideF d l t N D).1 (divideF d l t N D).2 := by
  obtain ⟨f1, f2⟩ := below_floor (l := l) hN hD hd hl
  have fh := below_half (l := l) hN hD hd hl
  have fj := below_just (l := l) hN hD hd hl
  have mono : ∀ {a b : Nat}, a ≤ b → fval (d - 1) a * D ≤ fval (d - 1) b * D := fun {a b} h => Nat.mul_le_mul_right _ (by
    rcases Nat.lt_or_ge a b with h' | h'
    · exact Nat.le_of_lt (fval_mono _ h')
    · rw [show a = b by omega]; exact Nat.le_refl _)
  unfold divideF
  split
  · rename_i hc
    have h1 := mono hc
    have h2 : fval (d - 1) (infF d l t - 1) * D ≤ fval (d - 1) (infF d l t) * D := mono (by omega)
    exact ⟨by show infF d l t - 1 < _; omega, by show fval (d - 1) (infF d l t - 1) * D ≤ _; omega, fun _ => ⟨rfl, rfl⟩, fun h => by omega, fun h => by omega, fun h => by omega⟩
  · rename_i hc
    have h1 : fval (d - 1) (belowF d l N D + 1) * D ≤ fval (d - 1) (infF d l t) * D := mono (by omega)
    refine ⟨by show belowF d l N D < _; omega, f1, fun h => by omega, fun _ => f2, fun _ => ?_, fun _ hne => ?_⟩
    · show shareF _ _ = 0 ↔ _
      rw [fj]
      unfold shareF
      constructor
      · intro h
        split at h
        · assumption
        · rcases cmpN_cases (up (restF d l N D) 1) (up D (expF d l N D)) with ⟨_, e⟩ | ⟨_, e⟩ | ⟨_, e⟩ <;> rw [e] at h <;> omega
      · intro h; rw [if_pos h]
    · show shareF _ _ = _
      rw [fh]
      unfold shareF
      rw [if_neg (fun h => hne (fj.2 h))]

theorem find_ok {N D d : Nat} {l t : Int} (hD : D ≠ 0) (hd : 0 < d) (hl : l ≤ 0) (ht : (d : Int) + l ≤ t) (ht0 : 0 ≤ t) :
    PlaceOk (d - 1) (infF d l t) (N * 2 ^ (-l).toNat) D (findF d l t N D).1 (findF d l t N D).2 := by
  have hi : 1 < infF d l t := by
    unfold infF
    have : 2 ^ 1 ≤ 2 ^ d := Nat.pow_le_pow_right (by decide) hd
    omega
  have hv0 : fval (d - 1) 0 = 0 := by unfold fval; simp
  have hv1 : fval (d - 1) 1 = 1 := by
    have h := fval_units (p := d - 1) (u := 1) (k := 0) (Nat.one_le_two_pow) (Or.inl rfl)
    simpa using h
  have hDp : 0 < D := by omega
  have hvi := inf_val hd ht
  have hiD : 0 < fval (d - 1) (infF d l t) * D := Nat.mul_pos (by rw [hvi]; exact Nat.two_pow_pos _) hDp
  unfold findF
  split
  · rename_i h0
    have hN : N = 0 := by
      by_cases h : N = 0
      · exact h
      · obtain ⟨m, e, _, _⟩ := bl_bounds h; omega
    subst hN
    rw [Nat.zero_mul]
    refine ⟨by show 0 < _; omega, by show fval _ 0 * D ≤ 0; rw [hv0]; omega, fun h => by omega, fun _ => ?_, fun _ => ?_, fun _ h => ?_⟩
    · show 0 < fval _ (0 + 1) * D
      rw [Nat.zero_add, hv1]; omega
    · show (0 : Int) = 0 ↔ fval _ 0 * D = 0
      rw [hv0]; simp
    · exfalso; apply h; show fval _ 0 * D = 0; rw [hv0]; simp
  · rename_i h0
    have hN : N ≠ 0 := by intro h; apply h0; rw [h]; rfl
    split
    · rename_i hg
      have h1 : up D t ≤ up N (-t) := by
        have ha := lead_lo hN hD
        have hb := lead_ge N D
        have := mt (fun h => up_mono (N := N) (D := D) (k := t) (m := leadF N D) h (by omega)) (by omega)
        omega
      rw [le_scale (c := (t - l).toNat) (by omega)] at h1
      have e : (((t - l).toNat : Int) - t).toNat = (-l).toNat := by omega
      rw [e] at h1
      have h2 : fval (d - 1) (infF d l t) * D ≤ N * 2 ^ (-l).toNat := by rw [hvi, Nat.mul_comm]; exact h1
      have h3 : fval (d - 1) (infF d l t - 1) * D ≤ fval (d - 1) (infF d l t) * D := Nat.mul_le_mul_right _ (Nat.le_of_lt (fval_mono _ (by omega)))
      exact ⟨by show infF d l t - 1 < _; omega, by show fval (d - 1) (infF d l t - 1) * D ≤ _; omega, fun _ => ⟨rfl, rfl⟩, fun h => by omega, fun h => by omega, fun h => by omega⟩
    · split
      · rename_i hg
        have h1 := up_mono (guess_hi hN hD) (m := l - 1) (by omega)
        have h2 : N * 2 ^ (-l).toNat + N * 2 ^ (-l).toNat < D := by
          unfold up at h1
          rw [show (l - 1).toNat = 0 by omega, show (-(l - 1)).toNat = (-l).toNat + 1 by omega, Nat.pow_zero, Nat.mul_one, Nat.pow_succ, ← Nat.mul_assoc] at h1
          omega
        have hNp : 0 < N * 2 ^ (-l).toNat := Nat.mul_pos (by omega) (Nat.two_pow_pos _)
        have h3 : D ≤ fval (d - 1) (infF d l t) * D := Nat.le_mul_of_pos_left _ (by rw [hvi]; exact Nat.two_pow_pos _)
        refine ⟨by show 0 < _; omega, by show fval _ 0 * D ≤ _; rw [hv0]; omega, fun h => by omega, fun _ => ?_, fun _ => ?_, fun _ _ => ?_⟩
        · show _ < fval _ (0 + 1) * D
          rw [Nat.zero_add, hv1]; omega
        · show (1 : Int) = 0 ↔ fval _ 0 * D = _
          rw [hv0]
          constructor
          · intro h; omega
          · intro h; omega
        · show (1 : Int) = 2 + cmpN _ ((fval _ 0 + fval _ (0 + 1)) * D)
          rw [Nat.zero_add, hv0, hv1, Nat.zero_add, Nat.one_mul, cmpN_lt h2]
          rfl
      · exact divide_ok hN hD hd hl (by omega)

/-- The greatest float that is not above, infinity at most. -/
structure FloorOk (p INF n D b : Nat) : Prop where
  lt : b ≤ INF
  le : fval p b * D ≤ n
  next : b = INF ∨ n < fval p (b + 1) * D
def roundR (p INF n D b : Nat) : Nat :=
  if b = INF then b else if cmpN (n + n) ((fval p b + fval p (b + 1)) * D) = 1 ∨ (cmpN (n + n) ((fval p b + fval p (b + 1)) * D) = 0 ∧ b % 2 = 1) then b + 1 else b

theorem floor_one {p INF n D b : Nat} {q : Nat} {past : Int} (hD : 0 < D) (h : PlaceOk p INF n D q past) (hf : FloorOk p INF n D b) : if fval p INF * D ≤ n then b = INF else b = q := by
  have mono : ∀ {a b : Nat}, a < b → fval p a * D < fval p b * D := fun {a b} h => Nat.mul_lt_mul_of_pos_right (fval_mono p h) hD
  have h1 := hf.lt
  have h2 := hf.le
  split
  · rename_i hc
    rcases hf.next with h3 | h3
    · exact h3
    · rcases Nat.lt_or_ge (b + 1) INF with h4 | h4
      · have := mono h4; omega
      · rcases Nat.lt_or_ge b INF with h5 | h5
        · rw [show b + 1 = INF by omega] at h3; omega
        · omega
  · rename_i hc
    have h4 := h.next (by omega)
    have h5 := h.le
    have h6 := h.lt
    rcases Nat.lt_trichotomy b q with h7 | h7 | h7
    · rcases hf.next with h3 | h3
      · omega
      · rcases Nat.lt_or_ge (b + 1) q with h8 | h8
        · have := mono h8; omega
        · rw [show b + 1 = q by omega] at h3; omega
    · exact h7
    · rcases Nat.lt_or_ge (q + 1) b with h8 | h8
      · have := mono h8; omega
      · rw [show q + 1 = b by omega] at h4; omega

theorem round_one {p INF n D b q : Nat} {past : Int} (hD : 0 < D) (hI : 0 < INF) (h : PlaceOk p INF n D q past) (hf : FloorOk p INF n D b) : roundR p INF n D b = nearestF (q, past) := by
  have h0 := floor_one hD h hf
  unfold roundR nearestF
  by_cases hc : fval p INF * D ≤ n
  · rw [if_pos hc] at h0
    obtain ⟨h1, h2⟩ := h.far hc
    rw [if_pos h0, if_pos (Or.inl h2), h0, h1]
    show INF = INF - 1 + 1
    omega
  · rw [if_neg hc] at h0
    have h6 := h.lt
    rw [if_neg (by omega), h0]
    show (if _ then q + 1 else q) = if (past = 3 ∨ (past = 2 ∧ q % 2 = 1)) then q + 1 else q
    by_cases hj : fval p q * D = n
    · have hp := (h.just (by omega)).2 hj
      have hs : fval p q * D < fval p (q + 1) * D := Nat.mul_lt_mul_of_pos_right (fval_mono p (by omega)) hD
      have hl : n + n < (fval p q + fval p (q + 1)) * D := by rw [Nat.add_mul]; omega
      rw [cmpN_lt hl, if_neg (by omega), if_neg (by omega)]
    · have hp := h.half (by omega) hj
      obtain ⟨c, hcc⟩ : ∃ c, c = cmpN (n + n) ((fval p q + fval p (q + 1)) * D) := ⟨_, rfl⟩
      rw [← hcc] at hp ⊢
      by_cases h1 : c = 1 ∨ (c = 0 ∧ q % 2 = 1)
      · rw [if_pos h1, if_pos (by omega)]
      · rw [if_neg h1, if_neg (by omega)]
end Go.Proofs.Ytaekaikkldnikaa
