/-
  Proved here: what near answers rises with the fraction, and turns with it; plain mathematics.
-/
import Derived.Test.YtbcddjibgaccpaaGreatDoorNearRisesMAll
namespace Go.Proofs.YtbcddjibgaccpaaGreatDoor
open Ieee

theorem zero_fval (p : Nat) : fval p 0 = 0 := by unfold fval; simp
theorem fv_sided {s : Bool} {b : Nat} (hb : b ≤ 9218868437227405312) : fv (sidedF s b) = zv s (fval 52 b) ∧ sidedF s b < 18446744073709551616 ∧ sidedF s b % 2 ^ 63 ≤ 9218868437227405312 := by
  unfold sidedF
  by_cases h : s = true ∧ b ≠ 0
  · rw [if_pos h]
    have h1 : (2 ^ 63 + b) % 2 ^ 63 = b := by omega
    refine ⟨?_, by omega, by omega⟩
    unfold fv sgnb
    rw [h1, decide_eq_true (by omega), h.1]
  · rw [if_neg h]
    have h1 : b % 2 ^ 63 = b := by omega
    refine ⟨?_, by omega, by omega⟩
    unfold fv sgnb
    rw [h1, decide_eq_false (by omega)]
    cases s
    · rfl
    · have : b = 0 := Classical.byContradiction fun h2 => h ⟨rfl, h2⟩
      rw [this, zero_fval]; rfl
theorem fvs_sided {s : Bool} {b : Nat} (hb : b ≤ 2139095040) : fvs (sidedS s b) = zv s (fval 23 b) ∧ sidedS s b < 4294967296 ∧ sidedS s b % 2 ^ 31 ≤ 2139095040 := by
  unfold sidedS
  by_cases h : s = true ∧ b ≠ 0
  · rw [if_pos h]
    have h1 : (2 ^ 31 + b) % 2 ^ 31 = b := by omega
    refine ⟨?_, by omega, by omega⟩
    unfold fvs
    rw [h1, decide_eq_true (by omega), h.1]
  · rw [if_neg h]
    have h1 : b % 2 ^ 31 = b := by omega
    refine ⟨?_, by omega, by omega⟩
    unfold fvs
    rw [h1, decide_eq_false (by omega)]
    cases s
    · rfl
    · have : b = 0 := Classical.byContradiction fun h2 => h ⟨rfl, h2⟩
      rw [this, zero_fval]; rfl
/-- By the side, the one or the other. -/
def sid (s : Bool) (x y : Nat) : Int := if s then -(x : Int) else y
theorem fv_lo {s : Bool} {b c : Nat} (hb : b ≤ 9218868437227405312) (hc : c ≤ 9218868437227405312) : fv (arLo s b c) = sid s (fval 52 c) (fval 52 b) ∧ arLo s b c < 18446744073709551616 ∧ arLo s b c % 2 ^ 63 ≤ 9218868437227405312 := by
  unfold arLo sid
  cases s
  · rw [if_neg (by simp), if_neg (by simp)]
    have h1 : b % 2 ^ 63 = b := by omega
    refine ⟨?_, by omega, by omega⟩
    unfold fv sgnb
    rw [h1, decide_eq_false (by omega)]; rfl
  · rw [if_pos rfl, if_pos rfl]
    have h1 : (2 ^ 63 + c) % 2 ^ 63 = c := by omega
    refine ⟨?_, by omega, by omega⟩
    unfold fv sgnb
    rw [h1, decide_eq_true (by omega)]; rfl
theorem fv_hi {s : Bool} {b c : Nat} (hb : b ≤ 9218868437227405312) (hc : c ≤ 9218868437227405312) : fv (arHi s b c) = sid s (fval 52 b) (fval 52 c) ∧ arHi s b c < 18446744073709551616 ∧ arHi s b c % 2 ^ 63 ≤ 9218868437227405312 := by
  unfold arHi sid
  cases s
  · rw [if_neg (by simp), if_neg (by simp)]
    have h1 : c % 2 ^ 63 = c := by omega
    refine ⟨?_, by omega, by omega⟩
    unfold fv sgnb
    rw [h1, decide_eq_false (by omega)]; rfl
  · rw [if_pos rfl, if_pos rfl]
    by_cases h0 : b = 0
    · rw [if_pos h0, h0, zero_fval]
      exact ⟨by decide, by decide, by decide⟩
    · rw [if_neg h0]
      have h1 : (2 ^ 63 + b) % 2 ^ 63 = b := by omega
      refine ⟨?_, by omega, by omega⟩
      unfold fv sgnb
      rw [h1, decide_eq_true (by omega)]; rfl
theorem sid_zv (s : Bool) (x : Nat) : sid s x x = zv s x := rfl
theorem sid_mono {sa sb : Bool} {Na Da Nb Db xa ya xb yb : Nat} (h : zv sa Na * Db ≤ zv sb Nb * Da) (hDa : Da ≠ 0) (hsb : sb = true → Nb ≠ 0) (ux : Nb * Da ≤ Na * Db → xb ≤ xa) (uy : Na * Db ≤ Nb * Da → ya ≤ yb) : sid sa xa ya ≤ sid sb xb yb := by
  unfold sid
  cases sa <;> cases sb
  · have h2 : (Na : Int) * Db ≤ (Nb : Int) * Da := h
    have := uy (by exact_mod_cast h2)
    show (ya : Int) ≤ yb
    omega
  · exfalso
    have h2 : (Na : Int) * Db ≤ -(Nb : Int) * Da := h
    have h3 := Nat.mul_pos (Nat.pos_of_ne_zero (hsb rfl)) (Nat.pos_of_ne_zero hDa)
    rw [Int.neg_mul] at h2
    have h4 : (0 : Int) < (Nb : Int) * Da := by exact_mod_cast h3
    have h5 : (0 : Int) ≤ (Na : Int) * Db := by exact_mod_cast Nat.zero_le (Na * Db)
    omega
  · show -(xa : Int) ≤ yb
    omega
  · have h2 : -(Na : Int) * Db ≤ -(Nb : Int) * Da := h
    rw [Int.neg_mul, Int.neg_mul] at h2
    have := ux (by have h3 : (Nb : Int) * Da ≤ (Na : Int) * Db := by omega
                   exact_mod_cast h3)
    show -(xa : Int) ≤ -(xb : Int)
    omega
theorem not_gt {X Y : Nat} {x y : Int} (hX : fv X = x ∧ X < 18446744073709551616 ∧ X % 2 ^ 63 ≤ 9218868437227405312) (hY : fv Y = y ∧ Y < 18446744073709551616 ∧ Y % 2 ^ 63 ≤ 9218868437227405312) (h : x ≤ y) : (FloatKind.f64.format.order X Y == some .gt) = false := by
  have h1 : FloatKind.f64.format.order X Y = some (compare (fv X) (fv Y)) := order_fvb hX.2.1 hY.2.1 hX.2.2 hY.2.2
  have e2 : ∀ x y : Int, compare x y = if x < y then .lt else if x = y then .eq else .gt := fun _ _ => rfl
  rw [h1, hX.1, hY.1, e2]
  by_cases h2 : x < y
  · rw [if_pos h2]; rfl
  · rw [if_neg h2, if_pos (by omega)]; rfl
theorem not_gts {X Y : Nat} {x y : Int} (hX : fvs X = x ∧ X < 4294967296 ∧ X % 2 ^ 31 ≤ 2139095040) (hY : fvs Y = y ∧ Y < 4294967296 ∧ Y % 2 ^ 31 ≤ 2139095040) (h : x ≤ y) : (FloatKind.f32.format.order X Y == some .gt) = false := by
  have h1 : FloatKind.f32.format.order X Y = some (compare (fvs X) (fvs Y)) := order_fvs hX.2.1 hY.2.1 hX.2.2 hY.2.2
  have e2 : ∀ x y : Int, compare x y = if x < y then .lt else if x = y then .eq else .gt := fun _ _ => rfl
  rw [h1, hX.1, hY.1, e2]
  by_cases h2 : x < y
  · rw [if_pos h2]; rfl
  · rw [if_neg h2, if_pos (by omega)]; rfl
/-- The opposite of a float. -/
def ngf (b : Nat) : Nat := b ^^^ 2 ^ 63
def ngs (b : Nat) : Nat := b ^^^ 2 ^ 31
theorem xor_flip {k b : Nat} (h : b < 2 ^ (k + 1)) : b ^^^ 2 ^ k = if b < 2 ^ k then 2 ^ k + b else b - 2 ^ k := by
  by_cases h1 : b < 2 ^ k
  · rw [if_pos h1, xor_top2 h1]
  · rw [if_neg h1]
    have hp : 2 ^ (k + 1) = 2 ^ k * 2 := Nat.pow_succ 2 k
    have h2 : b - 2 ^ k < 2 ^ k := by omega
    have h3 := xor_top2 h2
    have h4 : b = (b - 2 ^ k) ^^^ 2 ^ k := by rw [h3]; omega
    conv => lhs; rw [h4]
    rw [Nat.xor_assoc, Nat.xor_self, Nat.xor_zero]
theorem fv_ngf {X : Nat} {x : Int} (hX : fv X = x ∧ X < 18446744073709551616 ∧ X % 2 ^ 63 ≤ 9218868437227405312) : fv (ngf X) = -x ∧ ngf X < 18446744073709551616 ∧ ngf X % 2 ^ 63 ≤ 9218868437227405312 := by
  obtain ⟨h1, h2, h3⟩ := hX
  have e := xor_flip (k := 63) (b := X) h2
  unfold ngf
  rw [e, ← h1]
  by_cases h : X < 2 ^ 63
  · rw [if_pos h]
    have m1 : (2 ^ 63 + X) % 2 ^ 63 = X % 2 ^ 63 := by omega
    refine ⟨?_, by omega, by omega⟩
    unfold fv sgnb
    rw [m1, decide_eq_true (by omega), decide_eq_false (by omega)]
    rfl
  · rw [if_neg h]
    have m1 : (X - 2 ^ 63) % 2 ^ 63 = X % 2 ^ 63 := by omega
    refine ⟨?_, by omega, by omega⟩
    unfold fv sgnb
    rw [m1, decide_eq_false (by omega), decide_eq_true (by omega)]
    show ((fval 52 (X % 2 ^ 63) : Nat) : Int) = - -((fval 52 (X % 2 ^ 63) : Nat) : Int)
    rw [Int.neg_neg]
theorem fvs_ngs {X : Nat} {x : Int} (hX : fvs X = x ∧ X < 4294967296 ∧ X % 2 ^ 31 ≤ 2139095040) : fvs (ngs X) = -x ∧ ngs X < 4294967296 ∧ ngs X % 2 ^ 31 ≤ 2139095040 := by
  obtain ⟨h1, h2, h3⟩ := hX
  have e := xor_flip (k := 31) (b := X) h2
  unfold ngs
  rw [e, ← h1]
  by_cases h : X < 2 ^ 31
  · rw [if_pos h]
    have m1 : (2 ^ 31 + X) % 2 ^ 31 = X % 2 ^ 31 := by omega
    refine ⟨?_, by omega, by omega⟩
    unfold fvs
    rw [m1, decide_eq_true (by omega), decide_eq_false (by omega)]
    rfl
  · rw [if_neg h]
    have m1 : (X - 2 ^ 31) % 2 ^ 31 = X % 2 ^ 31 := by omega
    refine ⟨?_, by omega, by omega⟩
    unfold fvs
    rw [m1, decide_eq_false (by omega), decide_eq_true (by omega)]
    show ((fval 23 (X % 2 ^ 31) : Nat) : Int) = - -((fval 23 (X % 2 ^ 31) : Nat) : Int)
    rw [Int.neg_neg]
theorem are_eq {X Y : Nat} {x y : Int} (hX : fv X = x ∧ X < 18446744073709551616 ∧ X % 2 ^ 63 ≤ 9218868437227405312) (hY : fv Y = y ∧ Y < 18446744073709551616 ∧ Y % 2 ^ 63 ≤ 9218868437227405312) (h : x = y) : (FloatKind.f64.format.order X Y == some .eq) = true := by
  have h1 : FloatKind.f64.format.order X Y = some (compare (fv X) (fv Y)) := order_fvb hX.2.1 hY.2.1 hX.2.2 hY.2.2
  have e2 : ∀ x y : Int, compare x y = if x < y then .lt else if x = y then .eq else .gt := fun _ _ => rfl
  rw [h1, hX.1, hY.1, h, e2, if_neg (by omega), if_pos rfl]; rfl
theorem are_eqs {X Y : Nat} {x y : Int} (hX : fvs X = x ∧ X < 4294967296 ∧ X % 2 ^ 31 ≤ 2139095040) (hY : fvs Y = y ∧ Y < 4294967296 ∧ Y % 2 ^ 31 ≤ 2139095040) (h : x = y) : (FloatKind.f32.format.order X Y == some .eq) = true := by
  have h1 : FloatKind.f32.format.order X Y = some (compare (fvs X) (fvs Y)) := order_fvs hX.2.1 hY.2.1 hX.2.2 hY.2.2
  have e2 : ∀ x y : Int, compare x y = if x < y then .lt else if x = y then .eq else .gt := fun _ _ => rfl
  rw [h1, hX.1, hY.1, h, e2, if_neg (by omega), if_pos rfl]; rfl

/-- What near answers of a fraction, by its side and its size. -/
def nD (s : Bool) (N D : Nat) : Nat := sidedF s (nearestF (findF 53 (-1074) 1024 N D))
def nS (s : Bool) (N D : Nat) : Nat := sidedS s (nearestF (findF 24 (-149) 128 N D))
def lD (s : Bool) (N D : Nat) : Nat := arLo s (findF 53 (-1074) 1024 N D).1 (aboveF (findF 53 (-1074) 1024 N D))
def hD (s : Bool) (N D : Nat) : Nat := arHi s (findF 53 (-1074) 1024 N D).1 (aboveF (findF 53 (-1074) 1024 N D))
theorem mono64 {N D N' D' : Nat} (hD : D ≠ 0) (hD' : D' ≠ 0) (h : N * D' ≤ N' * D) : (findF 53 (-1074) 1024 N D).1 ≤ (findF 53 (-1074) 1024 N' D').1 ∧ nearestF (findF 53 (-1074) 1024 N D) ≤ nearestF (findF 53 (-1074) 1024 N' D') ∧ aboveF (findF 53 (-1074) 1024 N D) ≤ aboveF (findF 53 (-1074) 1024 N' D') := find_mono (by decide) (by decide) (by decide) (by decide) hD hD' h
theorem mono32 {N D N' D' : Nat} (hD : D ≠ 0) (hD' : D' ≠ 0) (h : N * D' ≤ N' * D) : (findF 24 (-149) 128 N D).1 ≤ (findF 24 (-149) 128 N' D').1 ∧ nearestF (findF 24 (-149) 128 N D) ≤ nearestF (findF 24 (-149) 128 N' D') ∧ aboveF (findF 24 (-149) 128 N D) ≤ aboveF (findF 24 (-149) 128 N' D') := find_mono (by decide) (by decide) (by decide) (by decide) hD hD' h
theorem fval_le {p a b : Nat} (h : a ≤ b) : fval p a ≤ fval p b := by
  rcases Nat.lt_or_ge a b with h1 | h1
  · exact Nat.le_of_lt (fval_mono p h1)
  · rw [show a = b by omega]; exact Nat.le_refl _
theorem find_le (N D : Nat) : (findF 53 (-1074) 1024 N D).1 ≤ 9218868437227405312 ∧ nearestF (findF 53 (-1074) 1024 N D) ≤ 9218868437227405312 ∧ aboveF (findF 53 (-1074) 1024 N D) ≤ 9218868437227405312 := by
  have h := find_lt N D
  have h2 := above_le (findF 53 (-1074) 1024 N D)
  have h3 : nearestF (findF 53 (-1074) 1024 N D) ≤ (findF 53 (-1074) 1024 N D).1 + 1 := by unfold nearestF; split <;> omega
  omega
theorem find_le32 (N D : Nat) : nearestF (findF 24 (-149) 128 N D) ≤ 2139095040 := nearestF_lt2 (find_lt2 N D)
theorem fv_nD (s : Bool) (N D : Nat) : fv (nD s N D) = zv s (fval 52 (nearestF (findF 53 (-1074) 1024 N D))) ∧ nD s N D < 18446744073709551616 ∧ nD s N D % 2 ^ 63 ≤ 9218868437227405312 := fv_sided (find_le N D).2.1
theorem fv_nS (s : Bool) (N D : Nat) : fvs (nS s N D) = zv s (fval 23 (nearestF (findF 24 (-149) 128 N D))) ∧ nS s N D < 4294967296 ∧ nS s N D % 2 ^ 31 ≤ 2139095040 := fvs_sided (find_le32 N D)
theorem fv_lD (s : Bool) (N D : Nat) : fv (lD s N D) = sid s (fval 52 (aboveF (findF 53 (-1074) 1024 N D))) (fval 52 (findF 53 (-1074) 1024 N D).1) ∧ lD s N D < 18446744073709551616 ∧ lD s N D % 2 ^ 63 ≤ 9218868437227405312 := fv_lo (find_le N D).1 (find_le N D).2.2
theorem fv_hD (s : Bool) (N D : Nat) : fv (hD s N D) = sid s (fval 52 (findF 53 (-1074) 1024 N D).1) (fval 52 (aboveF (findF 53 (-1074) 1024 N D))) ∧ hD s N D < 18446744073709551616 ∧ hD s N D % 2 ^ 63 ≤ 9218868437227405312 := fv_hi (find_le N D).1 (find_le N D).2.2

/-- Two fractions, the first not greater. -/
structure Up (sa : Bool) (Na Da : Nat) (sb : Bool) (Nb Db : Nat) : Prop where
  le : zv sa Na * Db ≤ zv sb Nb * Da
  da : Da ≠ 0
  db : Db ≠ 0
  nb : sb = true → Nb ≠ 0
theorem Up.near {sa sb : Bool} {Na Da Nb Db : Nat} (h : Up sa Na Da sb Nb Db) : (FloatKind.f64.format.order (nD sa Na Da) (nD sb Nb Db) == some .gt) = false :=
  not_gt (fv_nD sa Na Da) (fv_nD sb Nb Db) (sid_mono (xa := fval 52 _) (ya := fval 52 _) (xb := fval 52 _) (yb := fval 52 _) h.le h.da h.nb (fun k => fval_le (mono64 h.db h.da k).2.1) (fun k => fval_le (mono64 h.da h.db k).2.1))
theorem Up.single {sa sb : Bool} {Na Da Nb Db : Nat} (h : Up sa Na Da sb Nb Db) : (FloatKind.f32.format.order (nS sa Na Da) (nS sb Nb Db) == some .gt) = false :=
  not_gts (fv_nS sa Na Da) (fv_nS sb Nb Db) (sid_mono (xa := fval 23 _) (ya := fval 23 _) (xb := fval 23 _) (yb := fval 23 _) h.le h.da h.nb (fun k => fval_le (mono32 h.db h.da k).2.1) (fun k => fval_le (mono32 h.da h.db k).2.1))
theorem Up.lo {sa sb : Bool} {Na Da Nb Db : Nat} (h : Up sa Na Da sb Nb Db) : (FloatKind.f64.format.order (lD sa Na Da) (lD sb Nb Db) == some .gt) = false :=
  not_gt (fv_lD sa Na Da) (fv_lD sb Nb Db) (sid_mono h.le h.da h.nb (fun k => fval_le (mono64 h.db h.da k).2.2) (fun k => fval_le (mono64 h.da h.db k).1))
theorem Up.hi {sa sb : Bool} {Na Da Nb Db : Nat} (h : Up sa Na Da sb Nb Db) : (FloatKind.f64.format.order (hD sa Na Da) (hD sb Nb Db) == some .gt) = false :=
  not_gt (fv_hD sa Na Da) (fv_hD sb Nb Db) (sid_mono h.le h.da h.nb (fun k => fval_le (mono64 h.db h.da k).1) (fun k => fval_le (mono64 h.da h.db k).2.2))

/-- A fraction and its opposite. -/
structure Opp (s : Bool) (N D : Nat) (s' : Bool) (N' D' : Nat) : Prop where
  eq : N * D' = N' * D
  d : D ≠ 0
  d' : D' ≠ 0
  sgn : N ≠ 0 → s' = !s
theorem find_zero (d : Nat) (l t : Int) (D : Nat) : (findF d l t 0 D).1 = 0 ∧ nearestF (findF d l t 0 D) = 0 ∧ aboveF (findF d l t 0 D) = 0 := by
  have h0 : bl 0 = 0 := rfl
  have h : findF d l t 0 D = (0, 0) := by unfold findF; rw [if_pos h0]
  rw [h]
  exact ⟨rfl, rfl, rfl⟩
theorem Opp.same {s s' : Bool} {N D N' D' : Nat} (h : Opp s N D s' N' D') : (findF 53 (-1074) 1024 N' D').1 = (findF 53 (-1074) 1024 N D).1 ∧ nearestF (findF 53 (-1074) 1024 N' D') = nearestF (findF 53 (-1074) 1024 N D) ∧ aboveF (findF 53 (-1074) 1024 N' D') = aboveF (findF 53 (-1074) 1024 N D) := by
  have a := mono64 h.d h.d' (Nat.le_of_eq h.eq)
  have b := mono64 h.d' h.d (Nat.le_of_eq h.eq.symm)
  omega
theorem Opp.same32 {s s' : Bool} {N D N' D' : Nat} (h : Opp s N D s' N' D') : nearestF (findF 24 (-149) 128 N' D') = nearestF (findF 24 (-149) 128 N D) := by
  have a := mono32 h.d h.d' (Nat.le_of_eq h.eq)
  have b := mono32 h.d' h.d (Nat.le_of_eq h.eq.symm)
  omega
theorem sid_opp {s s' : Bool} {x y : Nat} (h : s' = (!s) ∨ (x = 0 ∧ y = 0)) : sid s' x y = -sid s y x := by
  rcases h with rfl | ⟨rfl, rfl⟩
  · unfold sid
    cases s
    · rfl
    · show (y : Int) = - -(y : Int)
      omega
  · cases s <;> cases s' <;> rfl
theorem Opp.near {s s' : Bool} {N D N' D' : Nat} (h : Opp s N D s' N' D') : (FloatKind.f64.format.order (nD s' N' D') (ngf (nD s N D)) == some .eq) = true := by
  refine are_eq (fv_nD s' N' D') (fv_ngf (fv_nD s N D)) ?_
  rw [h.same.2.1]
  refine sid_opp (x := fval 52 _) (y := fval 52 _) ?_
  by_cases h0 : N = 0
  · have := find_zero 53 (-1074) 1024 D
    rw [h0, this.2.1]
    exact Or.inr ⟨zero_fval _, zero_fval _⟩
  · exact Or.inl (h.sgn h0)
theorem Opp.single {s s' : Bool} {N D N' D' : Nat} (h : Opp s N D s' N' D') : (FloatKind.f32.format.order (nS s' N' D') (ngs (nS s N D)) == some .eq) = true := by
  refine are_eqs (fv_nS s' N' D') (fvs_ngs (fv_nS s N D)) ?_
  rw [h.same32]
  refine sid_opp (x := fval 23 _) (y := fval 23 _) ?_
  by_cases h0 : N = 0
  · have := find_zero 24 (-149) 128 D
    rw [h0, this.2.1]
    exact Or.inr ⟨zero_fval _, zero_fval _⟩
  · exact Or.inl (h.sgn h0)
theorem Opp.lo {s s' : Bool} {N D N' D' : Nat} (h : Opp s N D s' N' D') : (FloatKind.f64.format.order (lD s' N' D') (ngf (hD s N D)) == some .eq) = true := by
  refine are_eq (fv_lD s' N' D') (fv_ngf (fv_hD s N D)) ?_
  rw [h.same.1, h.same.2.2]
  refine sid_opp ?_
  by_cases h0 : N = 0
  · have := find_zero 53 (-1074) 1024 D
    rw [h0, this.1, this.2.2]
    exact Or.inr ⟨zero_fval _, zero_fval _⟩
  · exact Or.inl (h.sgn h0)
theorem Opp.hi {s s' : Bool} {N D N' D' : Nat} (h : Opp s N D s' N' D') : (FloatKind.f64.format.order (hD s' N' D') (ngf (lD s N D)) == some .eq) = true := by
  refine are_eq (fv_hD s' N' D') (fv_ngf (fv_lD s N D)) ?_
  rw [h.same.1, h.same.2.2]
  refine sid_opp ?_
  by_cases h0 : N = 0
  · have := find_zero 53 (-1074) 1024 D
    rw [h0, this.1, this.2.2]
    exact Or.inr ⟨zero_fval _, zero_fval _⟩
  · exact Or.inl (h.sgn h0)
end Go.Proofs.YtbcddjibgaccpaaGreatDoor
