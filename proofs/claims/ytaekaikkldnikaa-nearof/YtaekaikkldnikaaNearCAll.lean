/-
  Proved here: a float's value, and the order of all floats by a whole number of each; plain mathematics.
  Proved here: what Order of package near and the plain way's Order answer, of floats of every kind.
  Proved here: NearOrder of any four floats returns true, and writes nothing that was there.
-/
import Derived.Test.YtaekaikkldnikaaNearFAll
import Derived.Test.YtaekaikkldnikaaRefParseAll
import Derived.Test.YtaekaikkldnikaaWinMathAll
import Derived.Test.YtaekaikkldnikaaDivMathAll
import Derived.Laws.FloatArith
import Derived.Deep.QuietTactic
namespace Go.Proofs.Ytaekaikkldnikaa
open Ieee

/-- What a float's bits say, in units of the least float above 0. -/
def fv (b : Nat) : Int := zv (sgnb b) (fval 52 (b % 2 ^ 63))

theorem zv_bd (s : Bool) (x : Nat) : -(x : Int) ≤ zv s x ∧ zv s x ≤ x := by unfold zv; split <;> omega
theorem order_fv (s t : Bool) {r q : Nat} (hr : r ≤ 9218868437227405312) (hq : q ≤ 9218868437227405312) :
    double.order (double.word s r) (double.word t q) = some (compare (zv s (fval 52 r)) (zv t (fval 52 q))) := by
  unfold Format.order
  rcases Nat.lt_or_ge r 9218868437227405312 with h1 | h1
  · obtain ⟨m, e, a1, a2, a3⟩ := dread_fval s h1
    rw [a1]
    have v1 := fval_mono 52 h1
    rcases Nat.lt_or_ge q 9218868437227405312 with h2 | h2
    · obtain ⟨n, f, b1, b2, b3⟩ := dread_fval t h2
      rw [b1, order_at a2 b2, signed_val, signed_val, show e - -1074 = e + 1074 by omega, show f - -1074 = f + 1074 by omega, a3, b3]
      rfl
    · obtain rfl : q = 9218868437227405312 := by omega
      rw [dread_inf]
      obtain ⟨x, hx⟩ : ∃ x, x = fval 52 r := ⟨_, rfl⟩
      obtain ⟨y, hy⟩ : ∃ x, x = fval 52 9218868437227405312 := ⟨_, rfl⟩
      rw [← hx, ← hy] at v1 ⊢
      have z := zv_bd s x
      cases t
      · rw [cmp_val (by show _ < (y : Int); omega)]; rfl
      · rw [cmp_val_gt (by show -(y : Int) < _; omega)]; rfl
  · obtain rfl : r = 9218868437227405312 := by omega
    rw [dread_inf]
    rcases Nat.lt_or_ge q 9218868437227405312 with h2 | h2
    · obtain ⟨n, f, b1, b2, b3⟩ := dread_fval t h2
      rw [b1]
      have v1 := fval_mono 52 h2
      obtain ⟨x, hx⟩ : ∃ x, x = fval 52 q := ⟨_, rfl⟩
      obtain ⟨y, hy⟩ : ∃ x, x = fval 52 9218868437227405312 := ⟨_, rfl⟩
      rw [← hx, ← hy] at v1 ⊢
      have z := zv_bd t x
      cases s
      · rw [cmp_val_gt (by show _ < (y : Int); omega)]; rfl
      · rw [cmp_val (by show -(y : Int) < _; omega)]; rfl
    · obtain rfl : q = 9218868437227405312 := by omega
      rw [dread_inf]
      have v1 := fval_mono 52 (show 0 < 9218868437227405312 by decide)
      obtain ⟨y, hy⟩ : ∃ x, x = fval 52 9218868437227405312 := ⟨_, rfl⟩
      rw [← hy] at v1 ⊢
      have e2 : ∀ x y : Int, compare x y = if x < y then .lt else if x = y then .eq else .gt := fun _ _ => rfl
      cases s <;> cases t
      · rw [e2, if_neg (by omega), if_pos rfl]; rfl
      · rw [cmp_val_gt (by unfold zv; simp; omega)]; rfl
      · rw [cmp_val (by unfold zv; simp; omega)]; rfl
      · rw [e2, if_neg (by omega), if_pos rfl]; rfl

theorem order_fvb {b c : Nat} (hb : b < 18446744073709551616) (hc : c < 18446744073709551616) (h1 : b % 2 ^ 63 ≤ 9218868437227405312) (h2 : c % 2 ^ 63 ≤ 9218868437227405312) :
    double.order b c = some (compare (fv b) (fv c)) := by
  have := order_fv (sgnb b) (sgnb c) h1 h2
  rw [← word_split hb, ← word_split hc] at this
  exact this

theorem sgn_read {b : Nat} (hb : b < 18446744073709551616) : (double.read b).neg = sgnb b := by
  have hs : (b / 2 ^ 63 % 2 == 1) = sgnb b := by
    unfold sgnb
    by_cases h : 2 ^ 63 ≤ b
    · rw [decide_eq_true h, show b / 2 ^ 63 % 2 = 1 by omega]; rfl
    · rw [decide_eq_false h, show b / 2 ^ 63 % 2 = 0 by omega]; rfl
  unfold Format.read
  dsimp only
  rw [show double.signWeight = 2 ^ 63 from rfl, hs]
  split
  · rfl
  · split
    · rfl
    · split <;> rfl

/-- 1 of a float without a minus. -/
def sb (b : Nat) : Int := if sgnb b then 0 else 1
theorem sb_le (b : Nat) : 0 ≤ sb b ∧ sb b ≤ 1 := by unfold sb; split <;> omega
/-- A float's place among all floats. -/
def keyD (b : Nat) : Int := if 9218868437227405312 < b % 2 ^ 63 then -(2 * (fval 52 9218868437227405312 : Nat) : Int) - 1 else 2 * fv b + sb b

theorem fv_le {b : Nat} (h : b % 2 ^ 63 ≤ 9218868437227405312) : -(fval 52 9218868437227405312 : Nat) ≤ fv b ∧ fv b ≤ (fval 52 9218868437227405312 : Nat) := by
  have : fval 52 (b % 2 ^ 63) ≤ fval 52 9218868437227405312 := by
    rcases Nat.lt_or_ge (b % 2 ^ 63) 9218868437227405312 with h1 | h1
    · exact Nat.le_of_lt (fval_mono 52 h1)
    · rw [show b % 2 ^ 63 = 9218868437227405312 by omega]; exact Nat.le_refl _
  unfold fv zv
  obtain ⟨x, hx⟩ : ∃ x, x = fval 52 (b % 2 ^ 63) := ⟨_, rfl⟩
  obtain ⟨y, hy⟩ : ∃ x, x = fval 52 9218868437227405312 := ⟨_, rfl⟩
  rw [← hx, ← hy] at this ⊢
  split <;> omega

theorem ord_key {b c : Nat} (hb : b < 18446744073709551616) (hc : c < 18446744073709551616) : ordD (double.read b) (double.read c) = cmpZ (keyD b) (keyD c) := by
  unfold ordD
  rw [nan_word, nan_word, sgn_read hb, sgn_read hc]
  have e2 : ∀ x y : Int, compare x y = if x < y then .lt else if x = y then .eq else .gt := fun _ _ => rfl
  have s1 := sb_le b
  have s2 := sb_le c
  unfold keyD
  by_cases h1 : 9218868437227405312 < b % 2 ^ 63
  · rw [decide_eq_true h1, if_pos rfl, if_pos h1]
    by_cases h2 : 9218868437227405312 < c % 2 ^ 63
    · rw [decide_eq_true h2, if_pos rfl, if_pos h2, cmpZ_same]
    · rw [decide_eq_false h2, if_neg (by simp), if_neg h2]
      have h3 := fv_le (b := c) (by omega)
      obtain ⟨y, hy⟩ : ∃ x, x = fval 52 9218868437227405312 := ⟨_, rfl⟩
      rw [← hy] at h3 ⊢
      rw [cmpZ_lt (by omega)]
  · rw [decide_eq_false h1, if_neg (by simp), if_neg h1]
    by_cases h2 : 9218868437227405312 < c % 2 ^ 63
    · rw [decide_eq_true h2, if_pos rfl, if_pos h2]
      have h3 := fv_le (b := b) (by omega)
      obtain ⟨y, hy⟩ : ∃ x, x = fval 52 9218868437227405312 := ⟨_, rfl⟩
      rw [← hy] at h3 ⊢
      rw [cmpZ_gt (by omega)]
    · rw [decide_eq_false h2, if_neg (by simp), if_neg h2]
      have h3 : (double.read b).order (double.read c) = some (compare (fv b) (fv c)) := order_fvb hb hc (by omega) (by omega)
      rw [h3]
      by_cases l1 : fv b < fv c
      · rw [cmp_val l1, cmpZ_lt (by omega)]
      · by_cases l2 : fv b = fv c
        · rw [l2, e2, if_neg (by omega), if_pos rfl]
          clear s1 s2
          have k1 : sb b = if sgnb b then 0 else 1 := rfl
          have k2 : sb c = if sgnb c then 0 else 1 := rfl
          rw [k1, k2]
          clear k1 k2
          obtain ⟨x, hx⟩ : ∃ x, x = fv c := ⟨_, rfl⟩
          rw [← hx]
          clear hx h3 l1 l2 h1 h2 hb hc
          cases sgnb b <;> cases sgnb c
          · show (0 : Int) = _
            rw [cmpZ_same]
          · show (1 : Int) = cmpZ (2 * x + 1) (2 * x + 0)
            rw [cmpZ_gt (by omega)]
          · show (-1 : Int) = cmpZ (2 * x + 0) (2 * x + 1)
            rw [cmpZ_lt (by omega)]
          · show (0 : Int) = _
            rw [cmpZ_same]
        · rw [cmp_val_gt (by omega), cmpZ_gt (by omega)]

theorem fv_zero {b c : Nat} (h : fv b = fv c) (hs : sgnb b ≠ sgnb c) : b % 2 ^ 63 = 0 ∧ c % 2 ^ 63 = 0 := by
  have p : ∀ r, 0 < r → 0 < fval 52 r := fun r h => Nat.lt_of_le_of_lt (Nat.zero_le _) (fval_mono 52 h)
  have p1 := p (b % 2 ^ 63)
  have p2 := p (c % 2 ^ 63)
  unfold fv zv at h
  obtain ⟨x, hx⟩ : ∃ x, x = fval 52 (b % 2 ^ 63) := ⟨_, rfl⟩
  obtain ⟨y, hy⟩ : ∃ x, x = fval 52 (c % 2 ^ 63) := ⟨_, rfl⟩
  rw [← hx, ← hy] at h
  rw [← hx] at p1
  rw [← hy] at p2
  have hxy : x = 0 ∧ y = 0 := by
    revert h hs
    cases sgnb b <;> cases sgnb c <;> intro hs h <;> simp at hs h <;> omega
  exact ⟨by omega, by omega⟩

/-- Where not both are noughts, the order of two finite floats is that of their values. -/
theorem key_fv {b c : Nat} (h1 : b % 2 ^ 63 ≤ 9218868437227405312) (h2 : c % 2 ^ 63 ≤ 9218868437227405312) (hz : ¬ (b % 2 ^ 63 = 0 ∧ c % 2 ^ 63 = 0)) : cmpZ (keyD b) (keyD c) = cmpZ (fv b) (fv c) := by
  have s1 := sb_le b
  have s2 := sb_le c
  unfold keyD
  rw [if_neg (Nat.not_lt_of_le h1), if_neg (Nat.not_lt_of_le h2)]
  by_cases l1 : fv b < fv c
  · rw [cmpZ_lt l1, cmpZ_lt (by omega)]
  · by_cases l2 : fv b = fv c
    · have hs : sgnb b = sgnb c := Classical.byContradiction fun hs => hz (fv_zero l2 hs)
      unfold sb
      rw [l2, hs, cmpZ_same, cmpZ_same]
    · rw [cmpZ_gt (by omega), cmpZ_gt (by omega)]
/-- How often the least float above 0 is halved from 1. -/
def eD : Nat := 1074
/-- A float's value. -/
def fR (b : Nat) : Rat := rq (fv b) (2 ^ eD)
theorem fR_div (b : Nat) : fR b = Rat.divInt (fv b) ((2 ^ eD : Nat) : Int) := by
  unfold fR rq und
  rw [if_neg (Nat.ne_of_gt (Nat.two_pow_pos eD))]

theorem parts_of {r : Nat} (h : r < 9218868437227405312) : ∃ u k, r = u + k * 2 ^ 52 ∧ u < 2 ^ 53 ∧ (k = 0 ∨ 2 ^ 52 ≤ u) ∧ k ≤ 2045 := by
  by_cases h0 : r < 2 ^ 53
  · exact ⟨r, 0, by omega, h0, Or.inl rfl, by omega⟩
  · exact ⟨r - (r / 2 ^ 52 - 1) * 2 ^ 52, r / 2 ^ 52 - 1, by omega, by omega, Or.inr (by omega), by omega⟩

theorem zv_muln (n : Bool) (a m : Nat) : zv n (a * m) = zv n a * (m : Int) := by
  unfold zv
  split
  · rw [Int.natCast_mul, Int.neg_mul]
  · rw [Int.natCast_mul]

theorem two_pow_ne (n : Nat) : ((2 ^ n : Nat) : Int) ≠ 0 := by
  have := Nat.two_pow_pos n
  omega

theorem fR_parts {b u k : Nat} (n : Bool) (hr : b % 2 ^ 63 = u + k * 2 ^ 52) (h1 : u < 2 ^ 53) (h2 : k = 0 ∨ 2 ^ 52 ≤ u) (hn : n = (sgnb b && decide (b % 2 ^ 63 ≠ 0))) :
    Rat.divInt (zv n (up u (-1074 + (k : Int)))) ((up 1 (1074 - (k : Int)) : Nat) : Int) = fR b := by
  have hz : zv n (u * 2 ^ k) = zv (sgnb b) (u * 2 ^ k) := by
    rw [hn]
    by_cases h0 : b % 2 ^ 63 = 0
    · have hu : u = 0 := by omega
      rw [hu, Nat.zero_mul]
      unfold zv
      split <;> split <;> rfl
    · rw [decide_eq_true h0, Bool.and_true]
  rw [fR_div]
  unfold fv
  rw [hr, fval_units (by omega) h2, ← hz]
  clear hz
  unfold up
  by_cases hk : k ≤ 1074
  · obtain ⟨d, hd⟩ : ∃ d, eD = d + k := ⟨1074 - k, by unfold eD; omega⟩
    have e1 : (-1074 + (k : Int)).toNat = 0 := by omega
    have e2 : (1074 - (k : Int)).toNat = d := by unfold eD at hd; omega
    rw [e1, e2, hd, Nat.pow_zero, Nat.mul_one, Nat.one_mul, zv_muln, Nat.pow_add, Int.natCast_mul, Rat.divInt_mul_right (two_pow_ne k)]
  · obtain ⟨d, hd⟩ : ∃ d, k = d + eD := ⟨k - 1074, by unfold eD; omega⟩
    have e1 : (-1074 + (k : Int)).toNat = d := by unfold eD at hd; omega
    have e2 : (1074 - (k : Int)).toNat = 0 := by omega
    rw [e1, e2, hd, Nat.pow_zero, Nat.one_mul, Nat.pow_add, ← Nat.mul_assoc, zv_muln n (u * 2 ^ d)]
    have := Rat.divInt_mul_right (n := zv n (u * 2 ^ d)) (d := 1) (two_pow_ne eD)
    rw [Int.one_mul] at this
    exact this.symm

theorem fR_cmp (b c : Nat) : cmpQ (fR b) (fR c) = cmpZ (fv b) (fv c) := by
  unfold fR
  rw [← cmp_rq, cmpZ_scale (und_pos _)]
end Go.Proofs.Ytaekaikkldnikaa

namespace Go.Proofs.Ytaekaikkldnikaa
open Go.RowKit

theorem sgnb_neg {b : Nat} (hb : b < 18446744073709551616) : sgnb b = (Ieee.double.read b).neg := by
  have h : (Ieee.double.read b).neg = (b / Ieee.double.signWeight % 2 == 1) := by
    unfold Ieee.Format.read
    dsimp only
    split
    · rfl
    · split
      · rfl
      · split <;> rfl
  rw [h, dsw]
  unfold sgnb
  by_cases hc : 2 ^ 63 ≤ b
  · have : b / 2 ^ 63 % 2 = 1 := by omega
    rw [this, decide_eq_true hc]; rfl
  · have : b / 2 ^ 63 % 2 = 0 := by omega
    rw [this, decide_eq_false hc]; rfl

/-- What a float of 32 bits that is no NaN is in 64 bits. -/
def cnv (b : Nat) : Nat := Ieee.double.write (Ieee.single.read b)
theorem cnv_bits {b : Nat} (hn : (Ieee.single.read b).isNaN = false) : floatToFloatBits .f32 b .f64 = some (cnv b) := by
  have hs := conv_same hn
  unfold floatToFloatBits cnv
  rw [if_neg (by decide)]
  show (match Ieee.single.read b with
    | .nan _ _ => none
    | .infinity s => some (Ieee.double.write (.infinity s))
    | .number s m e => if (Ieee.double.read (Ieee.double.write (.number s m e))).isInfinity then none else some (Ieee.double.write (.number s m e))) = _
  cases h : Ieee.single.read b with
  | nan s t => rw [h] at hn; simp [Ieee.Datum.isNaN] at hn
  | infinity s => rfl
  | number s m e =>
    rw [h] at hs
    have : (Ieee.double.read (Ieee.double.write (.number s m e))).isInfinity = false := by
      cases hd : Ieee.double.read (Ieee.double.write (.number s m e)) with
      | number => rfl
      | infinity => rw [hd] at hs; exact hs.elim
      | nan => rfl
    show (if _ then none else some _) = some _
    rw [this]; rfl
theorem cnv_lt (b : Nat) : cnv b < 18446744073709551616 := Ieee.Format.write_lt Ieee.double _
theorem cnv_neg {b : Nat} (hn : (Ieee.single.read b).isNaN = false) : sgnb (cnv b) = (Ieee.single.read b).neg := by
  rw [sgnb_neg (cnv_lt b)]
  refine (conv_same hn).neg ?_
  rw [(conv_same hn).nan]; exact hn
theorem nan_of_zero {d : Ieee.Datum} (h : d.isZero = true) : d.isNaN = false := by cases d <;> simp_all [Ieee.Datum.isZero, Ieee.Datum.isNaN]
theorem cmp_ups (p q : Bool) : (if (if p then (0 : Int) else 1) < (if q then (0 : Int) else 1) then (-1 : Int) else if (if q then (0 : Int) else 1) < (if p then (0 : Int) else 1) then 1 else 0) = if p = q then 0 else if p then -1 else 1 := by
  cases p <;> cases q <;> decide

end Go.Proofs.Ytaekaikkldnikaa

namespace Go.Proofs.Ytaekaikkldnikaa
open Go.RowKit

theorem ordD_nn {d e : Ieee.Datum} (h1 : d.isNaN = true) (h2 : e.isNaN = true) : ordD d e = 0 := by unfold ordD; rw [h1, h2]; rfl
theorem ordD_ny {d e : Ieee.Datum} (h1 : d.isNaN = true) (h2 : e.isNaN = false) : ordD d e = -1 := by unfold ordD; rw [h1, h2]; rfl
theorem ordD_yn {d e : Ieee.Datum} (h1 : d.isNaN = false) (h2 : e.isNaN = true) : ordD d e = 1 := by unfold ordD; rw [h1, h2]; rfl
def ordQ (p s : Bool) : Ordering → Int
  | .lt => -1
  | .gt => 1
  | .eq => if p = s then 0 else if p then -1 else 1
theorem ordD_of {d e : Ieee.Datum} {q : Ordering} (h1 : d.isNaN = false) (h2 : e.isNaN = false) (h3 : d.order e = some q) : ordD d e = ordQ d.neg e.neg q := by
  unfold ordD; rw [h1, h2, h3]; cases q <;> rfl

/-- What a conversion of a NaN draws. -/
def nanC (b : Nat) (w : World) : Nat := Question.cut (.nanConv .f64 b) (w.tape w.drawn (.nanConv .f64 b))
theorem nanC_lt (b : Nat) (w : World) : nanC b w < 18446744073709551616 := by
  unfold nanC
  generalize w.tape w.drawn (.nanConv .f64 b) = t
  show (t % 2) * 2 ^ 63 + 0x7ff0000000000000 + 1 + (t / 2) % (2 ^ 52 - 1) < 18446744073709551616
  omega
theorem nanC_nan (b : Nat) (w : World) : (Ieee.double.read (nanC b w)).isNaN = true := by
  unfold nanC
  generalize w.tape w.drawn (.nanConv .f64 b) = t
  show (Ieee.double.read ((t % 2) * 2 ^ 63 + 0x7ff0000000000000 + 1 + (t / 2) % (2 ^ 52 - 1))).isNaN = true
  obtain ⟨r, hr⟩ : ∃ r, r = (t / 2) % (2 ^ 52 - 1) := ⟨_, rfl⟩
  have hr1 : r < 2 ^ 52 - 1 := by rw [hr]; exact Nat.mod_lt _ (by decide)
  rw [← hr]
  unfold Ieee.Format.read
  rw [dsw, dbin, dinf]
  have e : (t % 2 * 2 ^ 63 + 0x7ff0000000000000 + 1 + r) % 2 ^ 63 = 0x7ff0000000000000 + 1 + r := by omega
  dsimp only
  rw [e, if_neg (by omega), if_neg (by omega), if_neg (by omega)]
  rfl
theorem run_conv_nan (src : TypeId) (b : Nat) (w : World) (hs : (Try.prog.underlying src).isSome = true) (hn : (Ieee.single.read b).isNaN = true) : (convert src 22 (.float .f32 b)).run Try.prog w = .ok (.float .f64 (nanC b w)) w.drew := by
  obtain ⟨u, hs'⟩ := Option.isSome_iff_exists.1 hs
  have hd : FloatKind.f32.decode b = Ieee.single.read b := rfl
  cases h : Ieee.single.read b with
  | number => rw [h] at hn; cases hn
  | infinity => rw [h] at hn; cases hn
  | nan s t =>
    rw [h] at hd
    cases u <;> simp [convert, run_underlying hs', run_underlying Try.underlying22, Conv.floatToFloat, hd, Question.forced, nanC]
end Go.Proofs.Ytaekaikkldnikaa
