/-
  Proved here: plain facts on Euclid's steps that are foreseen (Lehmer, Collins). No condition.
  Proved here: what foresee answers.
  Proved here: plain facts on how many bits powers have. No condition.
-/
import Derived.Test.YtfnafgjnimfmjaaGreatDoorCmpAll
import Derived.Test.YtfnafgjnimfmjaaGreatDoorTrimAll
import Derived.Test.YtfnafgjnimfmjaaGreatDoorMulMathAll
import Derived.Test.YtfnafgjnimfmjaaGreatDoorSubAll
namespace Go.Proofs.YtfnafgjnimfmjaaGreatDoor

/-- What foresee gives, once it has gone a step: one step back from where it stands. -/
structure Done (X Y u0 v0 u1 v1 : Nat) (even : Bool) (z x : Int) : Prop where
  ez : z = if even then (u0 : Int) * X - v0 * Y else (v0 : Int) * Y - u0 * X
  ex : x = if even then (v1 : Int) * Y - u1 * X else (u1 : Int) * X - v1 * Y
  det : (u0 : Int) * v1 - v0 * u1 = if even then 1 else -1
  cx : (v1 : Int) ≤ x
  cz : x + v0 + v1 ≤ z
  small : u0 < 4294967296 ∧ v0 < 4294967296 ∧ u1 < 4294967296 ∧ v1 < 4294967296
  uv : u1 ≤ v1
  back : v0 = 0 ∨ (u0 ≤ v0 ∧ 1 ≤ u1)
  evn : v0 = 0 → even = true

/-- The numbers behind the highest bits: what the steps make of them. -/
theorem leap_even {a b X Y S u0 v0 u1 v1 : Nat} {z x : Int} (hS : 0 < S) (ha1 : X * S ≤ a) (ha2 : a < X * S + S) (hb1 : Y * S ≤ b) (hb2 : b < Y * S + S)
    (ez : z = (u0 : Int) * X - v0 * Y) (ex : x = (v1 : Int) * Y - u1 * X) (cx : (v1 : Int) ≤ x) (cz : x + v0 + v1 ≤ z) (uv : u1 ≤ v1) :
    (v0 : Int) * b ≤ u0 * a ∧ (u1 : Int) * a ≤ v1 * b ∧ (v1 : Int) * b - u1 * a ≤ u0 * a - v0 * b := by
  obtain ⟨al, rfl⟩ : ∃ al, a = X * S + al := ⟨a - X * S, by omega⟩
  obtain ⟨be, rfl⟩ : ∃ be, b = Y * S + be := ⟨b - Y * S, by omega⟩
  have hal : (al : Int) < S := by omega
  have hbe : (be : Int) < S := by omega
  have hal0 : (0 : Int) ≤ al := by omega
  have hbe0 : (0 : Int) ≤ be := by omega
  have hS' : (0 : Int) ≤ (S : Int) := by omega
  have hu0 : (0 : Int) ≤ u0 := by omega
  have hv0 : (0 : Int) ≤ v0 := by omega
  have hu1 : (0 : Int) ≤ u1 := by omega
  have hv1 : (0 : Int) ≤ v1 := by omega
  have huv : (u1 : Int) ≤ v1 := by omega
  push_cast
  -- the parts
  have e1 : (u0 : Int) * (X * S + al) - v0 * (Y * S + be) = z * S + u0 * al - v0 * be := by rw [ez]; simp only [Int.mul_add, Int.sub_mul, Int.mul_assoc]; omega
  have e2 : (v1 : Int) * (Y * S + be) - u1 * (X * S + al) = x * S + v1 * be - u1 * al := by rw [ex]; simp only [Int.mul_add, Int.sub_mul, Int.mul_assoc]; omega
  have m1 : x * S + (v0 * S + v1 * S) ≤ z * S := by
    have := Int.mul_le_mul_of_nonneg_right cz hS'
    simp only [Int.add_mul] at this; omega
  have m2 : (v1 : Int) * S ≤ x * S := Int.mul_le_mul_of_nonneg_right cx hS'
  have m3 : (v0 : Int) * be ≤ v0 * S := Int.mul_le_mul_of_nonneg_left (by omega) hv0
  have m4 : (v1 : Int) * be ≤ v1 * S := Int.mul_le_mul_of_nonneg_left (by omega) hv1
  have m5 : (u1 : Int) * al ≤ u1 * S := Int.mul_le_mul_of_nonneg_left (by omega) hu1
  have m6 : (u1 : Int) * S ≤ v1 * S := Int.mul_le_mul_of_nonneg_right huv hS'
  have p1 : (0 : Int) ≤ u0 * al := Int.mul_nonneg hu0 hal0
  have p2 : (0 : Int) ≤ v1 * be := Int.mul_nonneg hv1 hbe0
  have p3 : (0 : Int) ≤ u1 * al := Int.mul_nonneg hu1 hal0
  have p4 : (0 : Int) ≤ v1 * S := Int.mul_nonneg hv1 hS'
  refine ⟨by omega, by omega, by omega⟩
theorem leap_odd {a b X Y S u0 v0 u1 v1 : Nat} {z x : Int} (hS : 0 < S) (ha1 : X * S ≤ a) (ha2 : a < X * S + S) (hb1 : Y * S ≤ b) (hb2 : b < Y * S + S)
    (ez : z = (v0 : Int) * Y - u0 * X) (ex : x = (u1 : Int) * X - v1 * Y) (cx : (v1 : Int) ≤ x) (cz : x + v0 + v1 ≤ z) (uv : u1 ≤ v1) (uv0 : u0 ≤ v0) :
    (u0 : Int) * a ≤ v0 * b ∧ (v1 : Int) * b ≤ u1 * a ∧ (u1 : Int) * a - v1 * b ≤ v0 * b - u0 * a := by
  obtain ⟨al, rfl⟩ : ∃ al, a = X * S + al := ⟨a - X * S, by omega⟩
  obtain ⟨be, rfl⟩ : ∃ be, b = Y * S + be := ⟨b - Y * S, by omega⟩
  have hal : (al : Int) < S := by omega
  have hbe : (be : Int) < S := by omega
  have hal0 : (0 : Int) ≤ al := by omega
  have hbe0 : (0 : Int) ≤ be := by omega
  have hS' : (0 : Int) ≤ (S : Int) := by omega
  have hu0 : (0 : Int) ≤ u0 := by omega
  have hv0 : (0 : Int) ≤ v0 := by omega
  have hu1 : (0 : Int) ≤ u1 := by omega
  have hv1 : (0 : Int) ≤ v1 := by omega
  have huv : (u1 : Int) ≤ v1 := by omega
  have huv0 : (u0 : Int) ≤ v0 := by omega
  push_cast
  have e1 : (v0 : Int) * (Y * S + be) - u0 * (X * S + al) = z * S + v0 * be - u0 * al := by rw [ez]; simp only [Int.mul_add, Int.sub_mul, Int.mul_assoc]; omega
  have e2 : (u1 : Int) * (X * S + al) - v1 * (Y * S + be) = x * S + u1 * al - v1 * be := by rw [ex]; simp only [Int.mul_add, Int.sub_mul, Int.mul_assoc]; omega
  have m1 : x * S + (v0 * S + v1 * S) ≤ z * S := by
    have := Int.mul_le_mul_of_nonneg_right cz hS'
    simp only [Int.add_mul] at this; omega
  have m2 : (v1 : Int) * S ≤ x * S := Int.mul_le_mul_of_nonneg_right cx hS'
  have m3 : (u0 : Int) * al ≤ u0 * S := Int.mul_le_mul_of_nonneg_left (by omega) hu0
  have m4 : (v1 : Int) * be ≤ v1 * S := Int.mul_le_mul_of_nonneg_left (by omega) hv1
  have m5 : (u1 : Int) * al ≤ u1 * S := Int.mul_le_mul_of_nonneg_left (by omega) hu1
  have m6 : (u1 : Int) * S ≤ v1 * S := Int.mul_le_mul_of_nonneg_right huv hS'
  have m7 : (u0 : Int) * S ≤ v0 * S := Int.mul_le_mul_of_nonneg_right huv0 hS'
  have p1 : (0 : Int) ≤ v0 * be := Int.mul_nonneg hv0 hbe0
  have p2 : (0 : Int) ≤ v1 * be := Int.mul_nonneg hv1 hbe0
  have p3 : (0 : Int) ≤ u1 * al := Int.mul_nonneg hu1 hal0
  have p4 : (0 : Int) ≤ v1 * S := Int.mul_nonneg hv1 hS'
  have p5 : (0 : Int) ≤ v0 * S := Int.mul_nonneg hv0 hS'
  have p6 : (0 : Int) ≤ u0 * al := Int.mul_nonneg hu0 hal0
  refine ⟨by omega, by omega, by omega⟩
/-- Two numbers that are made of two others, and these of them: the same divisors. -/
theorem gcd_made {a b c d p q r s : Nat} (h1 : a = p * c + q * d) (h2 : b = r * c + s * d) {p' q' r' s' : Int} (h3 : (c : Int) = p' * a + q' * b) (h4 : (d : Int) = r' * a + s' * b) : Nat.gcd c d = Nat.gcd a b := by
  apply Nat.dvd_antisymm
  · apply Nat.dvd_gcd
    · rw [h1]; exact Nat.dvd_add (Nat.dvd_trans (Nat.gcd_dvd_left c d) (Nat.dvd_mul_left _ _)) (Nat.dvd_trans (Nat.gcd_dvd_right c d) (Nat.dvd_mul_left _ _))
    · rw [h2]; exact Nat.dvd_add (Nat.dvd_trans (Nat.gcd_dvd_left c d) (Nat.dvd_mul_left _ _)) (Nat.dvd_trans (Nat.gcd_dvd_right c d) (Nat.dvd_mul_left _ _))
  · have ga : ((Nat.gcd a b : Nat) : Int) ∣ (a : Int) := Int.natCast_dvd_natCast.2 (Nat.gcd_dvd_left a b)
    have gb : ((Nat.gcd a b : Nat) : Int) ∣ (b : Int) := Int.natCast_dvd_natCast.2 (Nat.gcd_dvd_right a b)
    apply Nat.dvd_gcd
    · apply Int.natCast_dvd_natCast.1
      rw [h3]; exact Int.dvd_add (Int.dvd_mul_of_dvd_right ga) (Int.dvd_mul_of_dvd_right gb)
    · apply Int.natCast_dvd_natCast.1
      rw [h4]; exact Int.dvd_add (Int.dvd_mul_of_dvd_right ga) (Int.dvd_mul_of_dvd_right gb)

/-- Where foresee stands: x and y are what is left of X and Y. -/
structure Fore (X Y x y u0 v0 u1 v1 u2 v2 : Nat) (even : Bool) : Prop where
  sx : x * v2 + y * v1 = X
  sy : x * u2 + y * u1 = Y
  ex : (x : Int) = if even then (v1 : Int) * Y - u1 * X else (u1 : Int) * X - v1 * Y
  ey : (y : Int) = if even then (u2 : Int) * X - v2 * Y else (v2 : Int) * Y - u2 * X
  det : (u1 : Int) * v2 - v1 * u2 = if even then -1 else 1
  le : y ≤ x
  pos : 1 ≤ v2
  uv2 : u2 ≤ v2
  uvs : u1 + u2 ≤ v1 + v2
  us : 1 ≤ u1 + u2
  alt : (v1 = 0 ∧ even = false) ∨ (u1 ≤ v1 ∧ 1 ≤ u2)
  small : u1 < 4294967296 ∧ v1 < 4294967296
  done : v0 = 0 ∨ ∃ z x, Done X Y u0 v0 u1 v1 even z x
theorem Fore.start {X Y : Nat} (h : Y ≤ X) : Fore X Y X Y 0 0 1 0 0 1 false :=
  ⟨by omega, by omega, by simp, by simp, by simp, h, by omega, by omega, by omega, by omega, Or.inl ⟨rfl, rfl⟩, by omega, Or.inl rfl⟩
theorem sq32 {v x X : Nat} (h : v ≤ x) (h2 : x * v ≤ X) (hX : X < 18446744073709551616) : v < 4294967296 := by
  rcases Nat.lt_or_ge v 4294967296 with h1 | h1
  · exact h1
  · have : 4294967296 * 4294967296 ≤ x * v := Nat.mul_le_mul (by omega) h1
    omega
theorem Fore.step {X Y x y u0 v0 u1 v1 u2 v2 q : Nat} {even : Bool} (h : Fore X Y x y u0 v0 u1 v1 u2 v2 even) (hX : X < 18446744073709551616) (c1 : v2 ≤ y) (c2 : y + v1 + v2 ≤ x) (hq : q = x / y) :
    Fore X Y y (x - q * y) u1 v1 u2 v2 (u1 + q * u2) (v1 + q * v2) (!even) ∧ q * y ≤ x ∧ x - q * y < y ∧ v1 + q * v2 ≤ X ∧ u1 + q * u2 ≤ Y ∧ 1 ≤ y := by
  have hy : 1 ≤ y := Nat.le_trans h.pos c1
  have hq1 : 1 ≤ q := by rw [hq]; exact (Nat.le_div_iff_mul_le (by omega)).2 (by omega)
  have hqy : q * y ≤ x := by rw [hq]; exact Nat.div_mul_le_self x y
  have hm : x - q * y < y := by
    have := Nat.div_add_mod x y
    have h2 := Nat.mod_lt x (show 0 < y by omega)
    rw [hq, Nat.mul_comm]; omega
  obtain ⟨r, hr⟩ : ∃ r, x = q * y + r := ⟨x - q * y, by omega⟩
  have hr' : x - q * y = r := by omega
  rw [hr'] at hm ⊢
  have e1 : y * (v1 + q * v2) + r * v2 = X := by
    rw [← h.sx, hr, Nat.mul_add, Nat.add_mul, ← Nat.mul_assoc, Nat.mul_comm y q]; omega
  have e2 : y * (u1 + q * u2) + r * u2 = Y := by
    rw [← h.sy, hr, Nat.mul_add, Nat.add_mul, ← Nat.mul_assoc, Nat.mul_comm y q]; omega
  have hv2' : v1 + q * v2 ≤ X := by
    have := Nat.le_mul_of_pos_left (v1 + q * v2) (show 0 < y by omega); omega
  have hu2' : u1 + q * u2 ≤ Y := by
    have := Nat.le_mul_of_pos_left (u1 + q * u2) (show 0 < y by omega); omega
  have hv32 : v2 < 4294967296 := sq32 (x := x) (by omega) (by have := h.sx; omega) hX
  have q1 : u2 ≤ q * u2 := Nat.le_mul_of_pos_left _ (by omega)
  have q2 : v2 ≤ q * v2 := Nat.le_mul_of_pos_left _ (by omega)
  have q3 : q * u2 + v2 ≤ q * v2 + u2 := by
    obtain ⟨k, rfl⟩ : ∃ k, q = k + 1 := ⟨q - 1, by omega⟩
    have := Nat.mul_le_mul_left k h.uv2
    rw [Nat.add_mul, Nat.add_mul]; omega
  have hu := h.uvs
  have hus := h.us
  have huv := h.uv2
  have hpos := h.pos
  have hxr : (r : Int) = x - q * y := by omega
  refine ⟨⟨e1, e2, ?_, ?_, ?_, by omega, by omega, by omega, by omega, by omega, Or.inr ⟨huv, by omega⟩, by omega, ?_⟩, hqy, hm, hv2', hu2', hy⟩
  · have := h.ey
    cases even <;> simpa using this
  · have h1 := h.ex
    have h2 := h.ey
    rw [hxr]
    cases even
    · simp only [Bool.not_false, if_true, Bool.false_eq_true, if_false] at h1 h2 ⊢
      rw [h1, h2]
      push_cast
      simp only [Int.mul_sub, Int.add_mul, Int.mul_assoc]
      omega
    · simp only [Bool.not_true, if_true, Bool.false_eq_true, if_false] at h1 h2 ⊢
      rw [h1, h2]
      push_cast
      simp only [Int.mul_sub, Int.add_mul, Int.mul_assoc]
      omega
  · have h1 := h.det
    have e3 : (u2 : Int) * ((v1 + q * v2 : Nat) : Int) - v2 * ((u1 + q * u2 : Nat) : Int) = -((u1 : Int) * v2 - v1 * u2) := by
      push_cast
      simp only [Int.mul_add]
      rw [Int.mul_comm (u2 : Int) v1, Int.mul_comm (v2 : Int) u1, Int.mul_left_comm (u2 : Int) q v2, Int.mul_left_comm (v2 : Int) q u2, Int.mul_comm (v2 : Int) u2]
      omega
    rw [e3, h1]
    cases even <;> rfl
  · right
    refine ⟨x, y, ?_, ?_, ?_, by omega, by omega, ⟨h.small.1, h.small.2, by omega, hv32⟩, huv, ?_, ?_⟩
    · have := h.ex
      cases even <;> simpa using this
    · have := h.ey
      cases even <;> simpa using this
    · have := h.det
      cases even <;> simpa using this
    · rcases h.alt with ⟨h1, _⟩ | ⟨h1, h2⟩
      · exact Or.inl h1
      · exact Or.inr ⟨h1, h2⟩
    · intro h0
      rcases h.alt with ⟨_, h2⟩ | ⟨h1, h2⟩
      · rw [h2]; rfl
      · exfalso
        have h3 := h.det
        have h4 : u1 = 0 := by omega
        rw [h0, h4] at h3
        cases even <;> simp at h3
/-- A leap: what it makes of a and b. -/
theorem leap_made {a b X Y S u0 v0 u1 v1 : Nat} {even : Bool} {z x : Int} (hS : 0 < S) (ha1 : X * S ≤ a) (ha2 : a < X * S + S) (hb1 : Y * S ≤ b) (hb2 : b < Y * S + S) (hb0 : 0 < b)
    (hv0 : v0 ≠ 0) (h : Done X Y u0 v0 u1 v1 even z x) :
    ∃ c d : Nat, (if even = true then b * v0 + c = a * u0 ∧ a * u1 + d = b * v1 else a * u0 + c = b * v0 ∧ b * v1 + d = a * u1) ∧ d ≤ c ∧ c ≤ b ∧ Nat.gcd c d = Nat.gcd a b ∧ c + d < a + b := by
  obtain ⟨huv0, hu1⟩ : u0 ≤ v0 ∧ 1 ≤ u1 := by
    rcases h.back with h1 | h1
    · exact absurd h1 hv0
    · exact h1
  have huv := h.uv
  have key : ∃ c d : Nat, (if even = true then b * v0 + c = a * u0 ∧ a * u1 + d = b * v1 else a * u0 + c = b * v0 ∧ b * v1 + d = a * u1) ∧ d ≤ c ∧ a = v1 * c + v0 * d ∧ b = u1 * c + u0 * d ∧ ∃ p q r s : Int, (c : Int) = p * a + q * b ∧ (d : Int) = r * a + s * b := by
    cases he : even
    · have hez := h.ez; have hex := h.ex; have hdet := h.det
      rw [he] at hez hex hdet
      simp only [Bool.false_eq_true, if_false] at hez hex hdet ⊢
      obtain ⟨l1, l2, l3⟩ := leap_odd hS ha1 ha2 hb1 hb2 hez hex h.cx h.cz huv huv0
      obtain ⟨c, hc⟩ := Int.eq_ofNat_of_zero_le (show 0 ≤ (v0 : Int) * b - u0 * a by omega)
      obtain ⟨d, hd⟩ := Int.eq_ofNat_of_zero_le (show 0 ≤ (u1 : Int) * a - v1 * b by omega)
      have ia : (v1 : Int) * c + v0 * d = (a : Int) := by
        rw [← hc, ← hd]
        simp only [Int.mul_sub]
        have : (v1 : Int) * (v0 * b) - v1 * (u0 * a) + (v0 * (u1 * a) - v0 * (v1 * b)) = -((u0 : Int) * v1 - v0 * u1) * a := by
          simp only [Int.neg_mul, Int.sub_mul, Int.mul_assoc]
          rw [Int.mul_left_comm (v1 : Int) v0 b, Int.mul_left_comm (v1 : Int) u0 a]; omega
        rw [this, hdet]; omega
      have ib : (u1 : Int) * c + u0 * d = (b : Int) := by
        rw [← hc, ← hd]
        simp only [Int.mul_sub]
        have : (u1 : Int) * (v0 * b) - u1 * (u0 * a) + (u0 * (u1 * a) - u0 * (v1 * b)) = -((u0 : Int) * v1 - v0 * u1) * b := by
          simp only [Int.neg_mul, Int.sub_mul, Int.mul_assoc]
          rw [Int.mul_left_comm (u1 : Int) v0 b, Int.mul_left_comm (u1 : Int) u0 a]; omega
        rw [this, hdet]; omega
      refine ⟨c, d, ⟨?_, ?_⟩, by omega, ?_, ?_, -u0, v0, u1, -v1, ?_, ?_⟩
      · have : ((a * u0 + c : Nat) : Int) = ((b * v0 : Nat) : Int) := by push_cast; rw [Int.mul_comm (a : Int), Int.mul_comm (b : Int), ← hc]; omega
        exact Int.ofNat.inj this
      · have : ((b * v1 + d : Nat) : Int) = ((a * u1 : Nat) : Int) := by push_cast; rw [Int.mul_comm (a : Int), Int.mul_comm (b : Int), ← hd]; omega
        exact Int.ofNat.inj this
      · have : ((a : Nat) : Int) = ((v1 * c + v0 * d : Nat) : Int) := by push_cast; exact ia.symm
        exact Int.ofNat.inj this
      · have : ((b : Nat) : Int) = ((u1 * c + u0 * d : Nat) : Int) := by push_cast; exact ib.symm
        exact Int.ofNat.inj this
      · rw [← hc, Int.neg_mul]; omega
      · rw [← hd, Int.neg_mul]; omega
    · have hez := h.ez; have hex := h.ex; have hdet := h.det
      rw [he] at hez hex hdet
      simp only [if_true] at hez hex hdet ⊢
      obtain ⟨l1, l2, l3⟩ := leap_even hS ha1 ha2 hb1 hb2 hez hex h.cx h.cz huv
      obtain ⟨c, hc⟩ := Int.eq_ofNat_of_zero_le (show 0 ≤ (u0 : Int) * a - v0 * b by omega)
      obtain ⟨d, hd⟩ := Int.eq_ofNat_of_zero_le (show 0 ≤ (v1 : Int) * b - u1 * a by omega)
      have ia : (v1 : Int) * c + v0 * d = (a : Int) := by
        rw [← hc, ← hd]
        simp only [Int.mul_sub]
        have : (v1 : Int) * (u0 * a) - v1 * (v0 * b) + (v0 * (v1 * b) - v0 * (u1 * a)) = ((u0 : Int) * v1 - v0 * u1) * a := by
          simp only [Int.sub_mul, Int.mul_assoc]
          rw [Int.mul_left_comm (v1 : Int) v0 b, Int.mul_left_comm (v1 : Int) u0 a]; omega
        rw [this, hdet]; omega
      have ib : (u1 : Int) * c + u0 * d = (b : Int) := by
        rw [← hc, ← hd]
        simp only [Int.mul_sub]
        have : (u1 : Int) * (u0 * a) - u1 * (v0 * b) + (u0 * (v1 * b) - u0 * (u1 * a)) = ((u0 : Int) * v1 - v0 * u1) * b := by
          simp only [Int.sub_mul, Int.mul_assoc]
          rw [Int.mul_left_comm (u1 : Int) v0 b, Int.mul_left_comm (u1 : Int) u0 a]; omega
        rw [this, hdet]; omega
      refine ⟨c, d, ⟨?_, ?_⟩, by omega, ?_, ?_, u0, -v0, -u1, v1, ?_, ?_⟩
      · have : ((b * v0 + c : Nat) : Int) = ((a * u0 : Nat) : Int) := by push_cast; rw [Int.mul_comm (a : Int), Int.mul_comm (b : Int), ← hc]; omega
        exact Int.ofNat.inj this
      · have : ((a * u1 + d : Nat) : Int) = ((b * v1 : Nat) : Int) := by push_cast; rw [Int.mul_comm (a : Int), Int.mul_comm (b : Int), ← hd]; omega
        exact Int.ofNat.inj this
      · have : ((a : Nat) : Int) = ((v1 * c + v0 * d : Nat) : Int) := by push_cast; exact ia.symm
        exact Int.ofNat.inj this
      · have : ((b : Nat) : Int) = ((u1 * c + u0 * d : Nat) : Int) := by push_cast; exact ib.symm
        exact Int.ofNat.inj this
      · rw [← hc, Int.neg_mul]; omega
      · rw [← hd, Int.neg_mul]; omega
  obtain ⟨c, d, h1, h2, h3, h4, p, q, r, s, h5, h6⟩ := key
  refine ⟨c, d, h1, h2, ?_, gcd_made h3 h4 h5 h6, ?_⟩
  · have := Nat.le_mul_of_pos_left c (show 0 < u1 by omega); omega
  · have k1 := Nat.le_mul_of_pos_left c (show 0 < v1 by omega)
    have k2 := Nat.le_mul_of_pos_left d (show 0 < v0 by omega)
    omega
end Go.Proofs.YtfnafgjnimfmjaaGreatDoor

namespace Go.Proofs.YtfnafgjnimfmjaaGreatDoor
open Go.RowKit

/-- The five cells of a steps. -/
def Steps (w : World) (g u0 v0 u1 v1 : Nat) (ev : Bool) : Prop :=
  w.heap[g]? = some (.cells #[.int .u64 (u0 : Int), .int .u64 (v0 : Int), .int .u64 (u1 : Int), .int .u64 (v1 : Int), .bool ev] 132 (0, 0))
theorem Steps.cells {w : World} {g u0 v0 u1 v1 : Nat} {ev : Bool} (h : Steps w g u0 v0 u1 v1 ev) :
    w.cell? ⟨g, 0, none⟩ = some (.int .u64 (u0 : Int)) ∧ w.cell? ⟨g, 1, none⟩ = some (.int .u64 (v0 : Int)) ∧ w.cell? ⟨g, 2, none⟩ = some (.int .u64 (u1 : Int)) ∧ w.cell? ⟨g, 3, none⟩ = some (.int .u64 (v1 : Int)) ∧ w.cell? ⟨g, 4, none⟩ = some (.bool ev) := by
  refine ⟨?_, ?_, ?_, ?_, ?_⟩ <;> (rw [cell_of_row w g _ _ _ _ h]; rfl)
theorem Steps.thaw {w : World} {g u0 v0 u1 v1 : Nat} {ev : Bool} (h : Steps w g u0 v0 u1 v1 ev) (k : Nat) : w.frozen? ⟨g, k, none⟩ = false := frozen_of_row w g k _ _ h
theorem Steps.other {w : World} {g u0 v0 u1 v1 : Nat} {ev : Bool} (h : Steps w g u0 v0 u1 v1 ev) {g' : Nat} (hne : g ≠ g') (k : Nat) (v : Value) : Steps (w.setCell ⟨g', k, none⟩ v) g u0 v0 u1 v1 ev := by
  unfold Steps
  rw [heap_setCell_other]
  · exact h
  · exact hne
theorem Steps.step {w : World} {g u0 v0 u1 v1 : Nat} {ev : Bool} (h : Steps w g u0 v0 u1 v1 ev) (a b c d : Nat) (f : Bool) :
    Steps (((((w.setCell ⟨g, 0, none⟩ (.int .u64 (a : Int))).setCell ⟨g, 2, none⟩ (.int .u64 (c : Int))).setCell ⟨g, 1, none⟩ (.int .u64 (b : Int))).setCell ⟨g, 3, none⟩ (.int .u64 (d : Int))).setCell ⟨g, 4, none⟩ (.bool f)) g a b c d f := by
  unfold Steps
  have h1 := heap_setCell_same w g 0 _ _ (.int .u64 (a : Int)) h
  have h2 := heap_setCell_same _ g 2 _ _ (.int .u64 (c : Int)) h1
  have h3 := heap_setCell_same _ g 1 _ _ (.int .u64 (b : Int)) h2
  have h4 := heap_setCell_same _ g 3 _ _ (.int .u64 (d : Int)) h3
  have h5 := heap_setCell_same _ g 4 _ _ (.bool f) h4
  rw [h5]
  rfl
theorem Steps.write {w : World} {g u0 v0 u1 v1 : Nat} {ev : Bool} (h : Steps w g u0 v0 u1 v1 ev) (a b c d : Nat) (f : Bool) :
    Steps (((((w.setCell ⟨g, 0, none⟩ (.int .u64 (a : Int))).setCell ⟨g, 1, none⟩ (.int .u64 (b : Int))).setCell ⟨g, 2, none⟩ (.int .u64 (c : Int))).setCell ⟨g, 3, none⟩ (.int .u64 (d : Int))).setCell ⟨g, 4, none⟩ (.bool f)) g a b c d f := by
  unfold Steps
  have h1 := heap_setCell_same w g 0 _ _ (.int .u64 (a : Int)) h
  have h2 := heap_setCell_same _ g 1 _ _ (.int .u64 (b : Int)) h1
  have h3 := heap_setCell_same _ g 2 _ _ (.int .u64 (c : Int)) h2
  have h4 := heap_setCell_same _ g 3 _ _ (.int .u64 (d : Int)) h3
  have h5 := heap_setCell_same _ g 4 _ _ (.bool f) h4
  rw [h5]
  rfl
/-- What foresee leaves. -/
def ForeEnd (X Y : Nat) (w : World) (e : Ending) (w' : World) : Prop :=
  ∃ (u0 v0 u1 v1 : Nat) (ev : Bool), e = .returned (.agg #[.int .u64 (u0 : Int), .int .u64 (v0 : Int), .int .u64 (u1 : Int), .int .u64 (v1 : Int), .bool ev]) ∧ (v0 = 0 ∨ ∃ z x, Done X Y u0 v0 u1 v1 ev z x) ∧ Below w.heap.size w w'

set_option maxRecDepth 100000 in
set_option maxHeartbeats 6400000 in
theorem foresee_any (X Y : Nat) (w : World) (hX : X < 18446744073709551616) (hYX : Y ≤ X) :
    Calls Tryz.prog 136 #[.int .u64 (X : Int), .int .u64 (Y : Int)] w fun e w' => ForeEnd X Y w e w' := by
  go_enter Tryz.func136, Tryz.ntmps136
  go_wp2
  have hS1 : Steps ((w.alloc (.cells #[.int .u64 0, .int .u64 0, .int .u64 0, .int .u64 0, .bool false] 132)).alloc (.cells #[.int .u64 0, .int .u64 0, .int .u64 1, .int .u64 0, .bool false] 132)) (w.heap.size + 1) 0 0 1 0 false := heap_alloc2_new w _ _
  have hS0 : Steps ((w.alloc (.cells #[.int .u64 0, .int .u64 0, .int .u64 0, .int .u64 0, .bool false] 132)).alloc (.cells #[.int .u64 0, .int .u64 0, .int .u64 1, .int .u64 0, .bool false] 132)) w.heap.size 0 0 0 0 false := heap_alloc2_old w _ _
  have hbl : Below w.heap.size w ((w.alloc (.cells #[.int .u64 0, .int .u64 0, .int .u64 0, .int .u64 0, .bool false] 132)).alloc (.cells #[.int .u64 0, .int .u64 0, .int .u64 1, .int .u64 0, .bool false] 132)) := ((Below.refl w.heap.size w).alloc (Nat.le_refl _) _).alloc (by simp) _
  generalize (w.alloc (.cells #[.int .u64 0, .int .u64 0, .int .u64 0, .int .u64 0, .bool false] 132)).alloc (.cells #[.int .u64 0, .int .u64 0, .int .u64 1, .int .u64 0, .bool false] 132) = w2 at *
  obtain ⟨g, hg⟩ : ∃ g, g = w.heap.size := ⟨_, rfl⟩
  obtain ⟨gs, hgs⟩ : ∃ gs, gs = w.heap.size + 1 := ⟨_, rfl⟩
  rw [← hgs] at hS1
  rw [← hg] at hS0
  rw [← hg, ← show gs = g + 1 by omega]
  have hne : g ≠ gs := by omega
  have HG : Hid (w.heap.size ≤ g) := by show _ ≤ _; omega
  have HGS : Hid (w.heap.size ≤ gs) := by show _ ≤ _; omega
  have HST : Hid (Steps w2 gs 0 0 1 0 false ∧ Steps w2 g 0 0 0 0 false ∧ Below w.heap.size w w2) := ⟨hS1, hS0, hbl⟩
  clear hS1 hS0 hbl hg hgs
  go_loopw [0, 1, 6, 7] (fun xv yv uv vv wr => ∃ (x y u0 v0 u1 v1 u2 v2 : Nat) (ev : Bool), xv = .int .u64 x ∧ yv = .int .u64 y ∧ uv = .int .u64 u2 ∧ vv = .int .u64 v2 ∧ Fore X Y x y u0 v0 u1 v1 u2 v2 ev ∧ Steps wr gs u0 v0 u1 v1 ev ∧ Steps wr g 0 0 0 0 false ∧ Below w.heap.size w wr) (fun _ yv _ _ _ => (intOf yv).toNat)
  case atStart => exact ⟨X, Y, 0, 0, 1, 0, 0, 1, false, rfl, rfl, rfl, rfl, Fore.start hYX, HST.out.1, HST.out.2.1, HST.out.2.2⟩
  case round =>
    clear HST
    obtain ⟨x, y, u0, v0, u1, v1, u2, v2, ev, rfl, rfl, rfl, rfl, hF, hS, hS0, hbel⟩ := hrel
    have HF : Hid (Fore X Y x y u0 v0 u1 v1 u2 v2 ev) := hF
    have hyx := hF.le
    have hv2 := hF.pos
    have hxX : x ≤ X := by
      have h1 := hF.sx
      have h2 := Nat.le_mul_of_pos_right x (show 0 < v2 by omega)
      omega
    have hsm := hF.small
    obtain ⟨hu1s, hv1s⟩ := hsm
    clear hF
    obtain ⟨c0, c1, c2, c3, c4⟩ := hS.cells
    by_cases h1 : v2 ≤ y
    · have h1' : (v2 : Int) ≤ (y : Int) := by omega
      have hv2X : v2 ≤ X := by omega
      have hvs : v1 + v2 ≤ X := by
        have k1 := HF.out.sx
        have k2 := Nat.le_mul_of_pos_left v1 (show 0 < y by omega)
        have k3 := Nat.le_mul_of_pos_left v2 (show 0 < x by omega)
        omega
      by_cases h2 : y + v1 + v2 ≤ x
      · have h2' : (v1 : Int) + (v2 : Int) ≤ (x : Int) - (y : Int) := by omega
        obtain ⟨q, hq⟩ : ∃ q, q = x / y := ⟨_, rfl⟩
        obtain ⟨hF2, hqy, hmy, hv2', hu2', hy1⟩ := HF.out.step hX h1 h2 hq
        have eq : (x : Int) / (y : Int) = (q : Int) := by rw [hq]; exact (Int.natCast_ediv x y).symm
        have hyz : ((y : Int) == 0) = false := by simp; omega
        obtain ⟨p, hp⟩ : ∃ p, p = q * y := ⟨_, rfl⟩
        have ep : (q : Int) * (y : Int) = (p : Int) := by rw [hp]; exact (Int.natCast_mul q y).symm
        obtain ⟨a, ha⟩ : ∃ a, a = q * u2 := ⟨_, rfl⟩
        have ea : (q : Int) * (u2 : Int) = (a : Int) := by rw [ha]; exact (Int.natCast_mul q u2).symm
        obtain ⟨b, hb⟩ : ∃ b, b = q * v2 := ⟨_, rfl⟩
        have eb : (q : Int) * (v2 : Int) = (b : Int) := by rw [hb]; exact (Int.natCast_mul q v2).symm
        rw [← hp] at hF2 hqy hmy
        rw [← ha] at hF2 hu2'
        rw [← hb] at hF2 hv2'
        have HF2 : Hid (Fore X Y y (x - p) u1 v1 u2 v2 (u1 + a) (v1 + b) (!ev)) := hF2
        have hst := hS.step u1 v1 u2 v2 (!ev)
        have hst0 := ((((hS0.other hne 0 (.int .u64 (u1 : Int))).other hne 2 (.int .u64 (u2 : Int))).other hne 1 (.int .u64 (v1 : Int))).other hne 3 (.int .u64 (v2 : Int))).other hne 4 (.bool (!ev))
        have hbel2 := ((((hbel.setCell (p := ⟨gs, 0, none⟩) HGS.out (.int .u64 (u1 : Int))).setCell (p := ⟨gs, 2, none⟩) HGS.out (.int .u64 (u2 : Int))).setCell (p := ⟨gs, 1, none⟩) HGS.out (.int .u64 (v1 : Int))).setCell (p := ⟨gs, 3, none⟩) HGS.out (.int .u64 (v2 : Int))).setCell (p := ⟨gs, 4, none⟩) HGS.out (.bool (!ev))
        have f0 := hS.thaw 0
        have f1 := hS.thaw 1
        have f2 := hS.thaw 2
        have f3 := hS.thaw 3
        have f4 := hS.thaw 4
        have hqX : q ≤ X := by rw [hq]; exact Nat.le_trans (Nat.div_le_self _ _) hxX
        clear hF2 hS hS0 hbel hq hp ha hb
        go_wp2
        go_roundw
        case rel => exact ⟨y, x - p, u1, v1, u2, v2, u1 + a, v1 + b, !ev, rfl, congrArg _ (Int.ofNat_sub hqy).symm, by go_num, by go_num, HF2.out, hst, hst0, hbel2⟩
        case measure =>
          show ((x : Int) - (p : Int)).toNat < ((y : Nat) : Int).toNat
          rw [← Int.ofNat_sub hqy, Int.toNat_natCast, Int.toNat_natCast]
          exact hmy
      · have h2' : ¬ (v1 : Int) + (v2 : Int) ≤ (x : Int) - (y : Int) := by omega
        have HE : Hid (v0 = 0 ∨ ∃ z x, Done X Y u0 v0 u1 v1 ev z x) := HF.out.done
        obtain ⟨d0, d1, d2, d3, d4⟩ := hS0.cells
        have f0 := hS0.thaw 0
        have f1 := hS0.thaw 1
        have f2 := hS0.thaw 2
        have f3 := hS0.thaw 3
        have f4 := hS0.thaw 4
        have hbel2 := ((((hbel.setCell (p := ⟨g, 0, none⟩) HG.out (.int .u64 (u0 : Int))).setCell (p := ⟨g, 1, none⟩) HG.out (.int .u64 (v0 : Int))).setCell (p := ⟨g, 2, none⟩) HG.out (.int .u64 (u1 : Int))).setCell (p := ⟨g, 3, none⟩) HG.out (.int .u64 (v1 : Int))).setCell (p := ⟨g, 4, none⟩) HG.out (.bool ev)
        have HW : Hid (Steps (((((wr.setCell ⟨g, 0, none⟩ (.int .u64 (u0 : Int))).setCell ⟨g, 1, none⟩ (.int .u64 (v0 : Int))).setCell ⟨g, 2, none⟩ (.int .u64 (u1 : Int))).setCell ⟨g, 3, none⟩ (.int .u64 (v1 : Int))).setCell ⟨g, 4, none⟩ (.bool ev)) g u0 v0 u1 v1 ev) := hS0.write u0 v0 u1 v1 ev
        clear hS hS0 hbel
        go_wp2
        (try simp only [Exit.inBlock, Exit.then])
        refine bodyPost_ret (v := .agg #[.int .u64 (u0 : Int), .int .u64 (v0 : Int), .int .u64 (u1 : Int), .int .u64 (v1 : Int), .bool ev]) ?_ rfl ⟨u0, v0, u1, v1, ev, rfl, HE.out, hbel2⟩
        exact results_cell_row rfl _ _ g 132 _ (0, 0) _ rfl HW.out Tryz.underlying132 rfl (by kernel_rfl)
    · have h1' : ¬ (v2 : Int) ≤ (y : Int) := by omega
      have HE : Hid (v0 = 0 ∨ ∃ z x, Done X Y u0 v0 u1 v1 ev z x) := HF.out.done
      obtain ⟨d0, d1, d2, d3, d4⟩ := hS0.cells
      have f0 := hS0.thaw 0
      have f1 := hS0.thaw 1
      have f2 := hS0.thaw 2
      have f3 := hS0.thaw 3
      have f4 := hS0.thaw 4
      have hbel2 := ((((hbel.setCell (p := ⟨g, 0, none⟩) HG.out (.int .u64 (u0 : Int))).setCell (p := ⟨g, 1, none⟩) HG.out (.int .u64 (v0 : Int))).setCell (p := ⟨g, 2, none⟩) HG.out (.int .u64 (u1 : Int))).setCell (p := ⟨g, 3, none⟩) HG.out (.int .u64 (v1 : Int))).setCell (p := ⟨g, 4, none⟩) HG.out (.bool ev)
      have HW : Hid (Steps (((((wr.setCell ⟨g, 0, none⟩ (.int .u64 (u0 : Int))).setCell ⟨g, 1, none⟩ (.int .u64 (v0 : Int))).setCell ⟨g, 2, none⟩ (.int .u64 (u1 : Int))).setCell ⟨g, 3, none⟩ (.int .u64 (v1 : Int))).setCell ⟨g, 4, none⟩ (.bool ev)) g u0 v0 u1 v1 ev) := hS0.write u0 v0 u1 v1 ev
      clear hS hS0 hbel
      go_wp2
      (try simp only [Exit.inBlock, Exit.then])
      refine bodyPost_ret (v := .agg #[.int .u64 (u0 : Int), .int .u64 (v0 : Int), .int .u64 (u1 : Int), .int .u64 (v1 : Int), .bool ev]) ?_ rfl ⟨u0, v0, u1, v1, ev, rfl, HE.out, hbel2⟩
      exact results_cell_row rfl _ _ g 132 _ (0, 0) _ rfl HW.out Tryz.underlying132 rfl (by kernel_rfl)
end Go.Proofs.YtfnafgjnimfmjaaGreatDoor

namespace Go.Proofs.YtfnafgjnimfmjaaGreatDoor

theorem bl_le_iff {v m : Nat} : bl v ≤ m ↔ v < 2 ^ m := by
  by_cases h : v = 0
  · subst h; simp [bl_zero, Nat.two_pow_pos]
  · obtain ⟨k, e, h1, h2⟩ := bl_bounds h
    rw [e]
    constructor
    · intro hm
      exact Nat.lt_of_lt_of_le h2 (Nat.pow_le_pow_right (by decide) hm)
    · intro hm
      have := (Nat.pow_lt_pow_iff_right (by decide : 1 < 2)).1 (Nat.lt_of_le_of_lt h1 hm)
      omega
theorem bl_lt' (v : Nat) : v < 2 ^ bl v := bl_le_iff.1 (Nat.le_refl _)
theorem bl_gt_iff {v m : Nat} : m < bl v ↔ 2 ^ m ≤ v := by
  constructor
  · intro h
    rcases Nat.lt_or_ge v (2 ^ m) with h1 | h1
    · have := bl_le_iff.2 h1; omega
    · exact h1
  · intro h
    rcases Nat.lt_or_ge m (bl v) with h1 | h1
    · exact h1
    · have := bl_le_iff.1 h1; omega
theorem bl_len {xs : List Nat} (h : limbs xs) : bl (val xs) ≤ 32 * xs.length := by
  rw [bl_le_iff, ← pow_limb]
  exact val_lt h
theorem bl_lim_len {p : Nat} : bl p ≤ 32 * (lim p).length := by
  have := bl_len (limbs_lim p)
  rwa [val_lim] at this
end Go.Proofs.YtfnafgjnimfmjaaGreatDoor
