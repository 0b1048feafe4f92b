/-
  Proved here: a float of 32 bits turned into one of 64 bits is the same number; how floats stand to one another; plain mathematics.
-/
import Ieee.Arith
namespace Go.Proofs.Ytknibmehbplpbaa
open Ieee

theorem dsw : double.signWeight = 2 ^ 63 := rfl
theorem dbin : double.binade = 2 ^ 52 := rfl
theorem dinf : double.infRung = 2047 * 2 ^ 52 := by decide
theorem dlp : double.leastPlace = -1074 := by decide

/-- A number at least 2 ^ 52 units long at its place is written and read as it is. -/
theorem dread_word {neg : Bool} {up kept : Nat} (h1 : 2 ^ 52 ≤ kept) (h2 : kept < 2 ^ 53) (h3 : up < 2046) :
    double.read (double.word neg (up * 2 ^ 52 + kept)) = .number neg kept (-1074 + (up : Int)) := by
  have hr : up * 2 ^ 52 + kept < 2047 * 2 ^ 52 := by omega
  have hs : double.word neg (up * 2 ^ 52 + kept) / 2 ^ 63 % 2 = (if neg then 1 else 0) := by
    unfold Format.word
    rw [dsw]
    cases neg
    · rw [if_neg (by simp), if_neg (by simp)]; omega
    · rw [if_pos rfl, if_pos rfl]; omega
  have hm : double.word neg (up * 2 ^ 52 + kept) % 2 ^ 63 = up * 2 ^ 52 + kept := by
    unfold Format.word
    rw [dsw]
    cases neg
    · rw [if_neg (by simp)]; omega
    · rw [if_pos rfl]; omega
  unfold Format.read
  rw [dsw, hs, hm, dbin, dinf, dlp]
  dsimp only
  rw [if_neg (by omega), if_pos hr]
  have e1 : 2 ^ 52 + (up * 2 ^ 52 + kept) % 2 ^ 52 = kept := by omega
  have e2 : (up * 2 ^ 52 + kept) / 2 ^ 52 - 1 = up := by omega
  rw [e1, e2]
  cases neg <;> rfl

theorem cut_zero (neg : Bool) (n : Nat) : Toward.even.cut neg n 0 = n := by
  unfold Toward.cut
  simp [Nat.mod_one]

/-- What a float of 32 bits is, written in 64 bits, is the same number. -/
theorem dread_nearest {neg : Bool} {mag : Nat} {place : Int} (hm : mag < 2 ^ 24) (h1 : -149 ≤ place) (h2 : place ≤ 104) :
    ∃ m e, double.read (double.nearest neg mag place) = .number neg m e ∧ -1074 ≤ e ∧ m * 2 ^ (e + 1074).toNat = mag * 2 ^ (place + 1074).toNat := by
  by_cases h0 : mag = 0
  · subst h0
    refine ⟨0, -1074, ?_, by omega, by simp⟩
    unfold Format.nearest
    rw [if_pos rfl]
    cases neg <;> decide
  · have hL : mag.log2 < 24 := (Nat.log2_lt h0).2 hm
    obtain ⟨L, eL⟩ : ∃ L, L = mag.log2 := ⟨_, rfl⟩
    have hlo : 2 ^ L ≤ mag := by rw [eL]; exact Nat.log2_self_le h0
    have hhi : mag < 2 ^ (L + 1) := by rw [eL]; exact Nat.lt_log2_self
    rw [← eL] at hL
    obtain ⟨up, hup⟩ : ∃ up : Nat, (up : Int) = place + L - 52 + 1074 := ⟨(place + L - 52 + 1074).toNat, by omega⟩
    have hk1 : 2 ^ 52 ≤ mag * 2 ^ (52 - L) := by
      calc 2 ^ 52 = 2 ^ L * 2 ^ (52 - L) := by rw [← Nat.pow_add]; congr 1; omega
        _ ≤ _ := Nat.mul_le_mul_right _ hlo
    have hk2 : mag * 2 ^ (52 - L) < 2 ^ 53 := by
      calc mag * 2 ^ (52 - L) < 2 ^ (L + 1) * 2 ^ (52 - L) := Nat.mul_lt_mul_of_pos_right hhi (Nat.two_pow_pos _)
        _ = 2 ^ 53 := by rw [← Nat.pow_add]; congr 1; omega
    have hkept : Toward.even.cut neg (mag <<< (52 - L)) 0 = mag * 2 ^ (52 - L) := by rw [cut_zero, Nat.shiftLeft_eq]
    have hw : double.nearest neg mag place = double.word neg (up * 2 ^ 52 + mag * 2 ^ (52 - L)) := by
      unfold Format.nearest
      rw [if_neg h0]
      have hfb : (double.fractionBits : Int) = 52 := rfl
      have hlast : max (place + (mag.log2 : Int) - (double.fractionBits : Int)) double.leastPlace = place + L - 52 := by
        rw [dlp, ← eL, hfb]; omega
      dsimp only
      rw [hlast, show (place - (place + (L : Int) - 52)).toNat = 52 - L by omega, show (place + (L : Int) - 52 - place).toNat = 0 by omega, hkept, dlp, show (place + (L : Int) - 52 - -1074).toNat = up by omega, dbin, dinf, Nat.min_eq_left (by omega)]
    rw [hw]
    refine ⟨_, _, dread_word hk1 hk2 (by omega), by omega, ?_⟩
    rw [Nat.mul_assoc, ← Nat.pow_add]
    congr 2
    omega

theorem signed_val (neg : Bool) (m k : Nat) : signed neg m k = if neg then -((m * 2 ^ k : Nat) : Int) else ((m * 2 ^ k : Nat) : Int) := by
  unfold signed
  cases neg <;> simp [Nat.shiftLeft_eq]

theorem cmp_scale (x y : Int) (k : Nat) : compare (x * ((2 ^ k : Nat) : Int)) (y * ((2 ^ k : Nat) : Int)) = compare x y := by
  have hp : (0 : Int) < ((2 ^ k : Nat) : Int) := by exact_mod_cast Nat.two_pow_pos k
  have h1 : (x * ((2 ^ k : Nat) : Int) < y * ((2 ^ k : Nat) : Int)) ↔ x < y := Int.mul_lt_mul_right hp
  have h2 : (x * ((2 ^ k : Nat) : Int) = y * ((2 ^ k : Nat) : Int)) ↔ x = y := ⟨fun h => Int.eq_of_mul_eq_mul_right (by omega) h, fun h => by rw [h]⟩
  have e1 : compare (x * ((2 ^ k : Nat) : Int)) (y * ((2 ^ k : Nat) : Int)) = if x * ((2 ^ k : Nat) : Int) < y * ((2 ^ k : Nat) : Int) then .lt else if x * ((2 ^ k : Nat) : Int) = y * ((2 ^ k : Nat) : Int) then .eq else .gt := rfl
  have e2 : compare x y = if x < y then .lt else if x = y then .eq else .gt := rfl
  rw [e1, e2]
  simp only [h1, h2]

theorem signed_add (neg : Bool) (m a k : Nat) : signed neg m (a + k) = signed neg m a * ((2 ^ k : Nat) : Int) := by
  rw [signed_val, signed_val]
  cases neg
  · simp [Nat.pow_add, ← Nat.mul_assoc]
  · simp [Nat.pow_add, Int.neg_mul, ← Int.mul_assoc]

theorem order_at {s t : Bool} {m n : Nat} {i j base : Int} (hi : base ≤ i) (hj : base ≤ j) :
    (Datum.number s m i).order (.number t n j) = some (compare (signed s m (i - base).toNat) (signed t n (j - base).toNat)) := by
  have e1 : (i - base).toNat = (i - min i j).toNat + (min i j - base).toNat := by omega
  have e2 : (j - base).toNat = (j - min i j).toNat + (min i j - base).toNat := by omega
  rw [e1, e2, signed_add, signed_add, cmp_scale]
  rfl

/-- Two data say the same. -/
def SameDat : Datum → Datum → Prop
  | .number s m i, .number t n j => s = t ∧ -1074 ≤ i ∧ -1074 ≤ j ∧ m * 2 ^ (i + 1074).toNat = n * 2 ^ (j + 1074).toNat
  | .infinity s, .infinity t => s = t
  | .nan _ _, .nan _ _ => True
  | _, _ => False

theorem SameDat.nan {d e : Datum} (h : SameDat d e) : d.isNaN = e.isNaN := by
  cases d <;> cases e <;> simp_all [SameDat, Datum.isNaN]

theorem SameDat.neg {d e : Datum} (h : SameDat d e) (hn : d.isNaN = false) : d.neg = e.neg := by
  cases d <;> cases e <;> simp_all [SameDat, Datum.isNaN, Datum.neg]

theorem SameDat.order {d e d' e' : Datum} (h : SameDat d d') (h' : SameDat e e') : d.order e = d'.order e' := by
  cases d <;> cases d' <;> simp only [SameDat] at h <;> cases e <;> cases e' <;> simp only [SameDat] at h' <;> (try rfl) <;> (try (subst h)) <;> (try (subst h')) <;> (try rfl)
  · obtain ⟨rfl, a1, a2, a3⟩ := h
    obtain ⟨rfl, b1, b2, b3⟩ := h'
    rw [order_at a1 b1, order_at a2 b2]
    rw [signed_val, signed_val, signed_val, signed_val, show ∀ i : Int, i - -1074 = i + 1074 from fun i => by omega, show ∀ i : Int, i - -1074 = i + 1074 from fun i => by omega, show ∀ i : Int, i - -1074 = i + 1074 from fun i => by omega, show ∀ i : Int, i - -1074 = i + 1074 from fun i => by omega, a3, b3]
  all_goals simp_all [Datum.order]

theorem ssw : single.signWeight = 2 ^ 31 := rfl
theorem sbin : single.binade = 2 ^ 23 := rfl
theorem sinf : single.infRung = 255 * 2 ^ 23 := by decide
theorem slp : single.leastPlace = -149 := by decide

theorem sread_num {b : Nat} {neg : Bool} {m : Nat} {e : Int} (h : single.read b = .number neg m e) : m < 2 ^ 24 ∧ -149 ≤ e ∧ e ≤ 104 := by
  unfold Format.read at h
  rw [ssw, sbin, sinf, slp] at h
  dsimp only at h
  have hr : b % 2 ^ 31 < 2 ^ 31 := Nat.mod_lt _ (by decide)
  obtain ⟨r, er⟩ : ∃ r, r = b % 2 ^ 31 := ⟨_, rfl⟩
  rw [← er] at h hr
  split at h
  · injection h with _ h2 h3; subst h2; subst h3; omega
  · split at h
    · injection h with _ h2 h3; subst h2; subst h3
      have : r % 2 ^ 23 < 2 ^ 23 := Nat.mod_lt _ (by decide)
      refine ⟨by omega, by omega, by omega⟩
    · split at h <;> cases h

theorem conv_same {b : Nat} (hn : (single.read b).isNaN = false) : SameDat (double.read (double.write (single.read b))) (single.read b) := by
  cases h : single.read b with
  | nan s t => rw [h] at hn; simp [Datum.isNaN] at hn
  | infinity s => rw [show double.read (double.write (.infinity s)) = .infinity s by cases s <;> decide]; exact rfl
  | number s m e =>
    obtain ⟨h1, h2, h3⟩ := sread_num h
    obtain ⟨m', e', k1, k2, k3⟩ := dread_nearest (neg := s) h1 h2 h3
    show SameDat (double.read (double.nearest s m e)) _
    rw [k1]
    exact ⟨rfl, k2, by omega, k3⟩

/-- The order of two data: a NaN is the least, -0 less than 0. -/
def ordD (d e : Datum) : Int :=
  if d.isNaN then (if e.isNaN then 0 else -1) else if e.isNaN then 1 else
  match d.order e with
  | some .lt => -1
  | some .gt => 1
  | _ => if d.neg = e.neg then 0 else if d.neg then -1 else 1

theorem SameDat.ordD {d e d' e' : Datum} (h : SameDat d d') (h' : SameDat e e') : ordD d e = ordD d' e' := by
  unfold Go.Proofs.Ytknibmehbplpbaa.ordD
  rw [h.nan, h'.nan, h.order h']
  by_cases h1 : d'.isNaN = true
  · simp [h1]
  · by_cases h2 : e'.isNaN = true
    · simp [h1, h2]
    · rw [h.neg (by rw [h.nan]; simpa using h1), h'.neg (by rw [h'.nan]; simpa using h2)]

theorem order_self (d : Datum) : (d.order d != some .eq) = d.isNaN := by
  cases d with
  | number s m i => simp [Datum.order, Datum.isNaN]
  | infinity s => simp [Datum.order, Datum.isNaN]
  | nan s t => simp [Datum.order, Datum.isNaN]

theorem order_nought (d : Datum) (p : Int) : (d.order (.number false 0 p) == some .eq) = d.isZero := by
  cases d with
  | number s m i =>
    have h : (Datum.number s m i).order (.number false 0 p) = some (compare (signed s m (i - min i p).toNat) (signed false 0 (p - min i p).toNat)) := rfl
    rw [h, signed_val, signed_val]
    have hp := Nat.two_pow_pos (i - min i p).toNat
    obtain ⟨k, hk⟩ : ∃ k, k = 2 ^ (i - min i p).toNat := ⟨_, rfl⟩
    rw [← hk] at hp ⊢
    have e2 : ∀ x y : Int, compare x y = if x < y then .lt else if x = y then .eq else .gt := fun _ _ => rfl
    rw [e2]
    rcases Nat.eq_zero_or_pos m with rfl | hm
    · cases s <;> simp [Datum.isZero]
    · have h0 : (Datum.number s m i).isZero = false := by unfold Datum.isZero; split <;> simp_all
      have : 0 < m * k := Nat.mul_pos hm hp
      rw [h0]
      have h3 : ((0 * 2 ^ (p - min i p).toNat : Nat) : Int) = 0 := by simp
      rw [h3]
      obtain ⟨q, hq⟩ : ∃ q, q = m * k := ⟨_, rfl⟩
      rw [← hq] at this ⊢
      cases s
      · have a1 : ¬ ((q : Int) < 0) := by omega
        have a3 : ¬ ((q : Int) = 0) := by omega
        show (some (if (q : Int) < 0 then Ordering.lt else if (q : Int) = 0 then Ordering.eq else Ordering.gt) == some Ordering.eq) = false
        rw [if_neg a1, if_neg a3]; rfl
      · simp [this]
  | infinity s => cases s <;> simp [Datum.order, Datum.isZero]
  | nan s t => simp [Datum.order, Datum.isZero]

theorem order_eq_neg {d e : Datum} (h : d.order e = some .eq) (hz : ¬ (d.isZero = true ∧ e.isZero = true)) : d.neg = e.neg := by
  cases d with
  | nan s t => simp [Datum.order] at h
  | infinity s =>
    cases e with
    | nan => simp [Datum.order] at h
    | number t n j => cases s <;> simp [Datum.order] at h
    | infinity t => cases s <;> cases t <;> simp [Datum.order] at h <;> (try rfl) <;> (exact absurd h (by decide))
  | number s m i =>
    cases e with
    | nan => simp [Datum.order] at h
    | infinity t => cases t <;> simp [Datum.order] at h
    | number t n j =>
      have h' : some (compare (signed s m (i - min i j).toNat) (signed t n (j - min i j).toNat)) = some .eq := h
      rw [signed_val, signed_val] at h'
      have hp := Nat.two_pow_pos (i - min i j).toNat
      have hq := Nat.two_pow_pos (j - min i j).toNat
      obtain ⟨k, hk⟩ : ∃ k, k = 2 ^ (i - min i j).toNat := ⟨_, rfl⟩
      obtain ⟨l, hl⟩ : ∃ k, k = 2 ^ (j - min i j).toNat := ⟨_, rfl⟩
      rw [← hk] at hp h'
      rw [← hl] at hq h'
      have e3 : ∀ x y : Int, compare x y = .eq → x = y := fun x y h => by
        have e2 : compare x y = if x < y then .lt else if x = y then .eq else .gt := rfl
        rw [e2] at h
        split at h
        · cases h
        · split at h
          · assumption
          · cases h
      have h3 := e3 _ _ (Option.some.inj h')
      show s = t
      have hz' : m ≠ 0 ∨ n ≠ 0 := by
        by_cases a : m = 0
        · right; intro b; subst a; subst b; exact hz ⟨rfl, rfl⟩
        · left; exact a
      have hpos : 0 < m * k ∨ 0 < n * l := by
        rcases hz' with a | a
        · left; exact Nat.mul_pos (by omega) hp
        · right; exact Nat.mul_pos (by omega) hq
      obtain ⟨u, hu⟩ : ∃ u, u = m * k := ⟨_, rfl⟩
      obtain ⟨v, hv⟩ : ∃ u, u = n * l := ⟨_, rfl⟩
      rw [← hu, ← hv] at h3 hpos
      cases s <;> cases t <;> simp at h3 <;> (try rfl) <;> omega
end Go.Proofs.Ytknibmehbplpbaa
