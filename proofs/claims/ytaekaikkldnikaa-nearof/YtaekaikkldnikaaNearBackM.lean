/-
  Proved here: a float's value has its place at the float itself; a float less itself; plain mathematics.
-/
import Derived.Test.YtaekaikkldnikaaNearOfBAll
import Derived.Laws.FloatArith
namespace Go.Proofs.Ytaekaikkldnikaa
open Ieee

theorem place_exact {p INF n D b r : Nat} {past : Int} (h : PlaceOk p INF n D b past) (hD : 0 < D) (hn : n = fval p r * D) (hr : r < INF) : b = r ∧ past = 0 := by
  have hlt : n < fval p INF * D := by rw [hn]; exact Nat.mul_lt_mul_of_pos_right (fval_mono p hr) hD
  have h1 := h.next hlt
  have h2 := h.le
  rw [hn] at h1 h2
  have e : b = r := by
    rcases Nat.lt_trichotomy b r with h3 | h3 | h3
    · exfalso
      have h4 : fval p (b + 1) ≤ fval p r := by
        rcases Nat.lt_or_ge (b + 1) r with h5 | h5
        · exact Nat.le_of_lt (fval_mono p h5)
        · rw [show b + 1 = r by omega]; exact Nat.le_refl _
      have := Nat.mul_le_mul_right D h4
      omega
    · exact h3
    · exfalso
      have := Nat.mul_lt_mul_of_pos_right (fval_mono p h3) hD
      omega
  subst e
  exact ⟨rfl, (h.just hlt).2 hn.symm⟩

theorem fR_size (b : Nat) : (fR b).num.natAbs * 2 ^ eD = fval 52 (b % 2 ^ 63) * (fR b).den := by
  obtain ⟨k, hk, e1, e2⟩ := rq_parts (fv b) (2 ^ eD)
  have hu : und (2 ^ eD) = ((2 ^ eD : Nat) : Int) := if_neg (Nat.ne_of_gt (Nat.two_pow_pos eD))
  rw [hu] at e2
  have h1 : (fv b).natAbs = fval 52 (b % 2 ^ 63) := zv_abs _ _
  have h2 : (fv b).natAbs = (fR b).num.natAbs * k.natAbs := by rw [e1, Int.natAbs_mul]; rfl
  have h3 : 2 ^ eD = (fR b).den * k.natAbs := by
    have := congrArg Int.natAbs e2
    rw [Int.natAbs_natCast, Int.natAbs_mul, Int.natAbs_natCast] at this
    exact this
  rw [← h1, h2]
  conv => lhs; rw [h3]
  rw [Nat.mul_assoc, Nat.mul_comm (fR b).den]

theorem back_find {b : Nat} (h : b % 2 ^ 63 < 9218868437227405312) : findF 53 (-1074) 1024 (fR b).num.natAbs (fR b).den = (b % 2 ^ 63, 0) := by
  have hp := find_ok (N := (fR b).num.natAbs) (D := (fR b).den) (d := 53) (l := -1074) (t := 1024) (fR b).den_nz (by decide) (by decide) (by decide) (by decide)
  have hi : infF 53 (-1074) 1024 = 9218868437227405312 := by decide
  rw [hi] at hp
  have hn := fR_size b
  rw [show (-(-1074 : Int)).toNat = eD from rfl] at hp
  obtain ⟨e1, e2⟩ := place_exact (r := b % 2 ^ 63) hp (Nat.pos_of_ne_zero (fR b).den_nz) hn h
  exact Prod.ext e1 e2

theorem fR_neg (b : Nat) : decide ((fR b).num < 0) = (sgnb b && decide (b % 2 ^ 63 ≠ 0)) := by
  obtain ⟨k, hk, e1, e2⟩ := rq_parts (fv b) (2 ^ eD)
  have hz : fval 52 0 = 0 := by decide
  have hp : 0 < b % 2 ^ 63 → 0 < fval 52 (b % 2 ^ 63) := fun h => Nat.lt_of_le_of_lt (Nat.zero_le _) (fval_mono 52 h)
  have hs : ((fR b).num < 0) ↔ fv b < 0 := by
    have e3 : fv b = (fR b).num * k := e1
    constructor
    · intro h; rw [e3]; exact Int.mul_neg_of_neg_of_pos h hk
    · intro h
      by_cases h2 : (fR b).num < 0
      · exact h2
      · rw [e3] at h
        have := Int.mul_nonneg (Int.not_lt.1 h2) (Int.le_of_lt hk)
        omega
  have h9 : decide ((fR b).num < 0) = decide (fv b < 0) := decide_eq_decide.2 hs
  rw [h9]
  show decide (zv (sgnb b) (fval 52 (b % 2 ^ 63)) < 0) = _
  by_cases h0 : b % 2 ^ 63 = 0
  · have hy : fval 52 (b % 2 ^ 63) = 0 := by rw [h0, hz]
    have hd : decide (b % 2 ^ 63 ≠ 0) = false := decide_eq_false (fun h => h h0)
    rw [hy, hd]
    cases sgnb b <;> rfl
  · have hp := hp (Nat.pos_of_ne_zero h0)
    rw [decide_eq_true h0]
    obtain ⟨y, hy⟩ : ∃ y, y = fval 52 (b % 2 ^ 63) := ⟨_, rfl⟩
    rw [← hy] at hp ⊢
    cases sgnb b
    · exact decide_eq_false (by show ¬ ((y : Int) < 0); omega)
    · exact decide_eq_true (by show (-(y : Int) < 0); omega)

theorem ssub_word {neg : Bool} {b : Nat} (hb : b < 2 ^ 31) : single.word neg b / 2 ^ 31 % 2 = (if neg then 1 else 0) ∧ single.word neg b % 2 ^ 31 = b := by
  unfold Format.word
  rw [ssw]
  cases neg
  · rw [if_neg (by simp), if_neg (by simp)]; omega
  · rw [if_pos rfl, if_pos rfl]; omega
theorem sread_fval {b : Nat} (hb : b < 4294967296) (hf : b % 2 ^ 31 < 2139095040) : ∃ m e, single.read b = .number (decide (2 ^ 31 ≤ b)) m e ∧ -149 ≤ e ∧ m * 2 ^ (e + 149).toNat = fval 23 (b % 2 ^ 31) := by
  have hs : (b / 2 ^ 31 % 2 == 1) = decide (2 ^ 31 ≤ b) := by
    by_cases h : 2 ^ 31 ≤ b
    · rw [decide_eq_true h, show b / 2 ^ 31 % 2 = 1 by omega]; rfl
    · rw [decide_eq_false h, show b / 2 ^ 31 % 2 = 0 by omega]; rfl
  unfold Format.read
  rw [ssw, sbin, sinf, slp]
  dsimp only
  rw [hs]
  obtain ⟨r, er⟩ : ∃ r, r = b % 2 ^ 31 := ⟨_, rfl⟩
  rw [← er] at hf ⊢
  clear er hs
  unfold fval
  by_cases h : r < 2 ^ 23
  · rw [if_pos h]
    refine ⟨r, -149, rfl, by omega, ?_⟩
    rw [if_pos (by omega), show r % 2 ^ 23 = r by omega]
    simp
  · rw [if_neg h, if_pos (by omega)]
    refine ⟨_, _, rfl, by omega, ?_⟩
    rw [if_neg (by omega), Nat.add_comm (2 ^ 23)]
    congr 2
    omega

theorem snan_word {b : Nat} : (single.read b).isNaN = decide (2139095040 < b % 2 ^ 31) := by
  unfold Format.read
  rw [ssw, sbin, sinf]
  dsimp only
  obtain ⟨r, hr⟩ : ∃ r, r = b % 2 ^ 31 := ⟨_, rfl⟩
  rw [← hr]
  split
  · rw [decide_eq_false (by omega)]; rfl
  · split
    · rw [decide_eq_false (by omega)]; rfl
    · split
      · rw [decide_eq_false (by omega)]; rfl
      · rw [decide_eq_true (by omega)]; rfl
theorem sread_inf {b : Nat} (h : b % 2 ^ 31 = 2139095040) : (single.read b).isInfinity = true := by
  unfold Format.read
  rw [ssw, sbin, sinf]
  dsimp only
  rw [h, if_neg (by decide), if_neg (by decide), if_pos (by decide)]
  rfl

/-- A finite float of 32 bits, in 64. -/
theorem cnv_fin {s : Nat} (hs : s < 4294967296) (hf : s % 2 ^ 31 < 2139095040) : cnv s % 2 ^ 63 < 9218868437227405312 ∧ sgnb (cnv s) = decide (2 ^ 31 ≤ s) ∧ fval 52 (cnv s % 2 ^ 63) = fval 23 (s % 2 ^ 31) * 2 ^ 925 := by
  have hn : (single.read s).isNaN = false := by rw [snan_word, decide_eq_false (by omega)]
  obtain ⟨m, e, h1, h2, h3⟩ := sread_fval hs hf
  have hc := conv_same hn
  have hl := cnv_lt s
  have hg := cnv_neg hn
  rw [h1] at hg
  have hd : SameDat (double.read (cnv s)) (single.read s) := hc
  rw [h1] at hd
  have hnn := hd.nan
  rw [nan_word] at hnn
  have hle : ¬ 9218868437227405312 < cnv s % 2 ^ 63 := by
    intro h; rw [decide_eq_true h] at hnn; cases hnn
  have hlt : cnv s % 2 ^ 63 < 9218868437227405312 := by
    rcases Nat.lt_or_ge (cnv s % 2 ^ 63) 9218868437227405312 with h | h
    · exact h
    · exfalso
      have h4 : cnv s % 2 ^ 63 = 9218868437227405312 := by omega
      have h5 := word_split hl
      rw [h4] at h5
      rw [h5, dread_inf] at hd
      exact hd
  refine ⟨hlt, hg, ?_⟩
  obtain ⟨m', e', k1, k2, k3⟩ := dread_fval (sgnb (cnv s)) hlt
  rw [← word_split hl] at k1
  rw [k1] at hd
  obtain ⟨_, _, _, h6⟩ := hd
  rw [← k3, h6, ← h3, Nat.mul_assoc, show (e + 1074).toNat = (e + 149).toNat + 925 by omega]
  generalize (925 : Nat) = t
  rw [Nat.pow_add]
theorem cnv_inf {s : Nat} (hn : (single.read s).isNaN = false) (hi : s % 2 ^ 31 = 2139095040) : cnv s % 2 ^ 63 = 9218868437227405312 := by
  have h1 := sread_inf hi
  unfold cnv
  cases h : single.read s with
  | number => rw [h] at h1; cases h1
  | nan => rw [h] at hn; cases hn
  | infinity t => cases t <;> decide

theorem back_find32 {s : Nat} (hs : s < 4294967296) (hf : s % 2 ^ 31 < 2139095040) : findF 24 (-149) 128 (fR (cnv s)).num.natAbs (fR (cnv s)).den = (s % 2 ^ 31, 0) := by
  obtain ⟨h1, _, h3⟩ := cnv_fin hs hf
  have hp := find_ok (N := (fR (cnv s)).num.natAbs) (D := (fR (cnv s)).den) (d := 24) (l := -149) (t := 128) (fR (cnv s)).den_nz (by decide) (by decide) (by decide) (by decide)
  have hi : infF 24 (-149) 128 = 2139095040 := by decide
  rw [hi] at hp
  have hn := fR_size (cnv s)
  rw [h3, show eD = 149 + 925 from rfl] at hn
  have hn2 : (fR (cnv s)).num.natAbs * 2 ^ 149 = fval 23 (s % 2 ^ 31) * (fR (cnv s)).den := by
    refine Nat.eq_of_mul_eq_mul_right (Nat.two_pow_pos 925) ?_
    generalize (925 : Nat) = t at *
    rw [Nat.pow_add] at hn
    rw [Nat.mul_assoc, hn, Nat.mul_assoc, Nat.mul_comm (2 ^ t), ← Nat.mul_assoc]
  obtain ⟨e1, e2⟩ := place_exact (r := s % 2 ^ 31) hp (Nat.pos_of_ne_zero (fR (cnv s)).den_nz) hn2 hf
  exact Prod.ext e1 e2

theorem fsub_num {f : Format} {b : Nat} {s : Bool} {m : Nat} {e : Int} (h : f.read b = .number s m e) : f.sub b b = some 0 := by
  have ht : signed s m (e - min e e).toNat + signed (!s) m (e - min e e).toNat = 0 := by
    unfold signed
    cases s
    · show ((m <<< _ : Nat) : Int) + -((m <<< _ : Nat) : Int) = 0
      omega
    · show -((m <<< _ : Nat) : Int) + ((m <<< _ : Nat) : Int) = 0
      omega
  unfold Format.sub
  rw [h]
  show (some (Datum.number (if signed s m (e - min e e).toNat + signed (!s) m (e - min e e).toNat = 0 then s && !s else decide (signed s m (e - min e e).toNat + signed (!s) m (e - min e e).toNat < 0)) (signed s m (e - min e e).toNat + signed (!s) m (e - min e e).toNat).natAbs (min e e))).map f.write = some 0
  rw [ht, if_pos rfl, Bool.and_not_self]
  show some (f.nearest false 0 (min e e)) = some 0
  unfold Format.nearest Format.word
  rw [if_pos rfl, if_neg (by simp)]
theorem fsub_fin {b : Nat} (hb : b < 18446744073709551616) (h : b % 2 ^ 63 < 9218868437227405312) : FloatKind.f64.format.sub b b = some 0 := by
  obtain ⟨m, e, h1, _, _⟩ := dread_fval (sgnb b) h
  rw [← word_split hb] at h1
  exact fsub_num (f := double) h1
theorem sub_fin32 {s : Nat} (hs : s < 4294967296) (h : s % 2 ^ 31 < 2139095040) : FloatKind.f32.format.sub s s = some 0 := by
  obtain ⟨m, e, h1, _, _⟩ := sread_fval hs h
  exact fsub_num (f := single) h1
theorem fsub_none {f : Format} {b : Nat} (h : (f.read b).isNaN = true ∨ (f.read b).isInfinity = true) : f.sub b b = none := by
  unfold Format.sub
  cases hr : f.read b with
  | number => rw [hr] at h; rcases h with h | h <;> cases h
  | nan => rfl
  | infinity s => cases s <;> rfl
theorem fsub_no {b : Nat} (hb : b < 18446744073709551616) (h : 9218868437227405312 ≤ b % 2 ^ 63) : FloatKind.f64.format.sub b b = none := by
  refine fsub_none (f := double) ?_
  rcases Nat.lt_or_ge 9218868437227405312 (b % 2 ^ 63) with h1 | h1
  · exact Or.inl (by rw [nan_word, decide_eq_true h1])
  · have h2 : b % 2 ^ 63 = 9218868437227405312 := by omega
    have h5 := word_split hb
    rw [h2] at h5
    refine Or.inr ?_
    rw [h5, dread_inf]; rfl
theorem sub_no32 {s : Nat} (h : 2139095040 ≤ s % 2 ^ 31) : FloatKind.f32.format.sub s s = none := by
  refine fsub_none (f := single) ?_
  rcases Nat.lt_or_ge 2139095040 (s % 2 ^ 31) with h1 | h1
  · exact Or.inl (by rw [snan_word, decide_eq_true h1])
  · exact Or.inr (sread_inf (by omega))
theorem order_nan {f : Format} {a c : Nat} (h : (f.read a).isNaN = true) : (f.order a c == some .eq) = false := by
  unfold Format.order
  cases hr : f.read a with
  | number => rw [hr] at h; cases h
  | infinity => rw [hr] at h; cases h
  | nan => rfl
theorem nanq64 (b t : Nat) : (FloatKind.f64.format.order (Question.cut (.nanBits .f64 b b) t) 0 == some .eq) = false := by
  refine order_nan (f := double) ?_
  show (double.read ((t % 2) * 2 ^ 63 + 0x7ff0000000000000 + 1 + (t / 2) % (2 ^ 52 - 1))).isNaN = true
  rw [nan_word, decide_eq_true]
  have := Nat.mod_lt (t / 2) (show 0 < 2 ^ 52 - 1 by decide)
  generalize (t / 2) % (2 ^ 52 - 1) = r at *
  generalize t % 2 = q
  omega
theorem nanq32 (b t : Nat) : (FloatKind.f32.format.order (Question.cut (.nanBits .f32 b b) t) 0 == some .eq) = false := by
  refine order_nan (f := single) ?_
  show (single.read ((t % 2) * 2 ^ 31 + 0x7f800000 + 1 + (t / 2) % (2 ^ 23 - 1))).isNaN = true
  rw [snan_word, decide_eq_true]
  have := Nat.mod_lt (t / 2) (show 0 < 2 ^ 23 - 1 by decide)
  generalize (t / 2) % (2 ^ 23 - 1) = r at *
  generalize t % 2 = q
  omega
/-- What comes back of a finite float. -/
theorem back_word {b : Nat} (hb : b < 18446744073709551616) (h : b % 2 ^ 63 ≠ 0) : sidedF (sgnb b && decide (b % 2 ^ 63 ≠ 0)) (b % 2 ^ 63) = b ∧ arLo (sgnb b && decide (b % 2 ^ 63 ≠ 0)) (b % 2 ^ 63) (b % 2 ^ 63) = b ∧ arHi (sgnb b && decide (b % 2 ^ 63 ≠ 0)) (b % 2 ^ 63) (b % 2 ^ 63) = b := by
  rw [decide_eq_true h, Bool.and_true]
  unfold sidedF arLo arHi sgnb
  by_cases h1 : 2 ^ 63 ≤ b
  · rw [decide_eq_true h1, if_pos ⟨rfl, h⟩, if_pos rfl, if_pos rfl, if_neg h]
    omega
  · rw [decide_eq_false h1, if_neg (by simp), if_neg (by simp), if_neg (by simp)]
    omega
theorem back_nought {b : Nat} (h : b % 2 ^ 63 = 0) : sidedF (sgnb b && decide (b % 2 ^ 63 ≠ 0)) (b % 2 ^ 63) = 0 ∧ arLo (sgnb b && decide (b % 2 ^ 63 ≠ 0)) (b % 2 ^ 63) (b % 2 ^ 63) = 0 ∧ arHi (sgnb b && decide (b % 2 ^ 63 ≠ 0)) (b % 2 ^ 63) (b % 2 ^ 63) = 0 := by
  have hd : decide (b % 2 ^ 63 ≠ 0) = false := decide_eq_false (fun h2 => h2 h)
  rw [hd, Bool.and_false, h]
  exact ⟨rfl, rfl, rfl⟩
theorem back_eq32 {s : Nat} (hs : s < 4294967296) (hf : s % 2 ^ 31 < 2139095040) : (FloatKind.f32.format.order (sidedS (decide (2 ^ 31 ≤ s) && decide (cnv s % 2 ^ 63 ≠ 0)) (s % 2 ^ 31)) s != some .eq) = false := by
  obtain ⟨h1, h2, h3⟩ := cnv_fin hs hf
  have hn : (single.read s).isNaN = false := by rw [snan_word, decide_eq_false (by omega)]
  by_cases h0 : s % 2 ^ 31 = 0
  · have hx : sidedS (decide (2 ^ 31 ≤ s) && decide (cnv s % 2 ^ 63 ≠ 0)) (s % 2 ^ 31) = 0 := by
      rw [h0]; unfold sidedS; exact if_neg (fun h => h.2 rfl)
    rw [hx]
    have h4 : s = 0 ∨ s = 2 ^ 31 := by omega
    rcases h4 with rfl | rfl <;> decide
  · have hc : cnv s % 2 ^ 63 ≠ 0 := by
      intro h
      rw [h, show fval 52 0 = 0 by decide] at h3
      have h4 : 0 < fval 23 (s % 2 ^ 31) := Nat.lt_of_le_of_lt (Nat.zero_le _) (fval_mono 23 (Nat.pos_of_ne_zero h0))
      have h5 := Nat.mul_pos h4 (Nat.two_pow_pos 925)
      generalize (925 : Nat) = t at *
      omega
    have hx : sidedS (decide (2 ^ 31 ≤ s) && decide (cnv s % 2 ^ 63 ≠ 0)) (s % 2 ^ 31) = s := by
      rw [decide_eq_true hc, Bool.and_true]
      unfold sidedS
      by_cases h6 : 2 ^ 31 ≤ s
      · rw [decide_eq_true h6, if_pos ⟨rfl, h0⟩]; omega
      · rw [decide_eq_false h6, if_neg (by simp)]; omega
    rw [hx]
    show ((single.read s).order (single.read s) != some .eq) = false
    rw [order_self]; exact hn
/-- What a difference draws that is no number. -/
def nanS (k : FloatKind) (x : Nat) (w : World) : Nat := Question.cut (.nanBits k x x) (w.tape w.drawn (.nanBits k x x))
theorem nanS64 (x : Nat) (w : World) : (FloatKind.f64.format.order (nanS .f64 x w) 0 == some .eq) = false := nanq64 _ _
theorem nanS32 (x : Nat) (w : World) : (FloatKind.f32.format.order (nanS .f32 x w) 0 == some .eq) = false := nanq32 _ _
theorem run_sub_none (t : TypeId) (k : FloatKind) (x : Nat) (P : Program) (w : World) (h : k.format.sub x x = none) : (binOp .sub t (.float k x) (.float k x)).run P w = .ok (.float k (nanS k x w)) w.drew := by
  simp [binOp, Op.floatArith, h, Question.forced, nanS]
end Go.Proofs.Ytaekaikkldnikaa
