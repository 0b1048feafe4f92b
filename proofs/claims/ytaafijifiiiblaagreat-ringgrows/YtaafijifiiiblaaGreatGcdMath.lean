/-
  Proved here: plain facts on Euclid's steps that are foreseen (Lehmer, Collins). No condition.
-/
import Derived.Test.YtaafijifiiiblaaGreatCmpAll
namespace Go.Proofs.YtaafijifiiiblaaGreat

/-- What foresee gives, once it has gone a step: one step back from where it stands. -/
structure Done (X Y u0 v0 u1 v1 : Nat) (even : Bool) (z x : Int) : Prop where
  ez : z = if even then (u0 : Int) * X - v0 * Y else (v0 : Int) * Y - u0 * X
  ex : x = if even then (v1 : Int) * Y - u1 * X else (u1 : Int) * X - v1 * Y
  det : (u0 : Int) * v1 - v0 * u1 = if even then 1 else -1
  cx : (v1 : Int) ≤ x
  cz : x + v0 + v1 ≤ z
  small : u0 < 4294967296 ∧ v0 < 4294967296 ∧ u1 < 4294967296 ∧ v1 < 4294967296
  uv : u1 ≤ v1
  back : v0 = 0 ∨ (u0 ≤ v0 ∧ 1 ≤ u1)
  evn : v0 = 0 → even = true

/-- The numbers behind the highest bits: what the steps make of them. -/
theorem leap_even {a b X Y S u0 v0 u1 v1 : Nat} {z x : Int} (hS : 0 < S) (ha1 : X * S ≤ a) (ha2 : a < X * S + S) (hb1 : Y * S ≤ b) (hb2 : b < Y * S + S)
    (ez : z = (u0 : Int) * X - v0 * Y) (ex : x = (v1 : Int) * Y - u1 * X) (cx : (v1 : Int) ≤ x) (cz : x + v0 + v1 ≤ z) (uv : u1 ≤ v1) :
    (v0 : Int) * b ≤ u0 * a ∧ (u1 : Int) * a ≤ v1 * b ∧ (v1 : Int) * b - u1 * a ≤ u0 * a - v0 * b := by
  obtain ⟨al, rfl⟩ : ∃ al, a = X * S + al := ⟨a - X * S, by omega⟩
  obtain ⟨be, rfl⟩ : ∃ be, b = Y * S + be := ⟨b - Y * S, by omega⟩
  have hal : (al : Int) < S := by omega
  have hbe : (be : Int) < S := by omega
  have hal0 : (0 : Int) ≤ al := by omega
  have hbe0 : (0 : Int) ≤ be := by omega
  have hS' : (0 : Int) ≤ (S : Int) := by omega
  have hu0 : (0 : Int) ≤ u0 := by omega
  have hv0 : (0 : Int) ≤ v0 := by omega
  have hu1 : (0 : Int) ≤ u1 := by omega
  have hv1 : (0 : Int) ≤ v1 := by omega
  have huv : (u1 : Int) ≤ v1 := by omega
  push_cast
  -- the parts
  have e1 : (u0 : Int) * (X * S + al) - v0 * (Y * S + be) = z * S + u0 * al - v0 * be := by rw [ez]; simp only [Int.mul_add, Int.sub_mul, Int.mul_assoc]; omega
  have e2 : (v1 : Int) * (Y * S + be) - u1 * (X * S + al) = x * S + v1 * be - u1 * al := by rw [ex]; simp only [Int.mul_add, Int.sub_mul, Int.mul_assoc]; omega
  have m1 : x * S + (v0 * S + v1 * S) ≤ z * S := by
    have := Int.mul_le_mul_of_nonneg_right cz hS'
    simp only [Int.add_mul] at this; omega
  have m2 : (v1 : Int) * S ≤ x * S := Int.mul_le_mul_of_nonneg_right cx hS'
  have m3 : (v0 : Int) * be ≤ v0 * S := Int.mul_le_mul_of_nonneg_left (by omega) hv0
  have m4 : (v1 : Int) * be ≤ v1 * S := Int.mul_le_mul_of_nonneg_left (by omega) hv1
  have m5 : (u1 : Int) * al ≤ u1 * S := Int.mul_le_mul_of_nonneg_left (by omega) hu1
  have m6 : (u1 : Int) * S ≤ v1 * S := Int.mul_le_mul_of_nonneg_right huv hS'
  have p1 : (0 : Int) ≤ u0 * al := Int.mul_nonneg hu0 hal0
  have p2 : (0 : Int) ≤ v1 * be := Int.mul_nonneg hv1 hbe0
  have p3 : (0 : Int) ≤ u1 * al := Int.mul_nonneg hu1 hal0
  have p4 : (0 : Int) ≤ v1 * S := Int.mul_nonneg hv1 hS'
  refine ⟨by omega, by omega, by omega⟩
theorem leap_odd {a b X Y S u0 v0 u1 v1 : Nat} {z x : Int} (hS : 0 < S) (ha1 : X * S ≤ a) (ha2 : a < X * S + S) (hb1 : Y * S ≤ b) (hb2 : b < Y * S + S)
    (ez : z = (v0 : Int) * Y - u0 * X) (ex : x = (u1 : Int) * X - v1 * Y) (cx : (v1 : Int) ≤ x) (cz : x + v0 + v1 ≤ z) (uv : u1 ≤ v1) (uv0 : u0 ≤ v0) :
    (u0 : Int) * a ≤ v0 * b ∧ (v1 : Int) * b ≤ u1 * a ∧ (u1 : Int) * a - v1 * b ≤ v0 * b - u0 * a := by
  obtain ⟨al, rfl⟩ : ∃ al, a = X * S + al := ⟨a - X * S, by omega⟩
  obtain ⟨be, rfl⟩ : ∃ be, b = Y * S + be := ⟨b - Y * S, by omega⟩
  have hal : (al : Int) < S := by omega
  have hbe : (be : Int) < S := by omega
  have hal0 : (0 : Int) ≤ al := by omega
  have hbe0 : (0 : Int) ≤ be := by omega
  have hS' : (0 : Int) ≤ (S : Int) := by omega
  have hu0 : (0 : Int) ≤ u0 := by omega
  have hv0 : (0 : Int) ≤ v0 := by omega
  have hu1 : (0 : Int) ≤ u1 := by omega
  have hv1 : (0 : Int) ≤ v1 := by omega
  have huv : (u1 : Int) ≤ v1 := by omega
  have huv0 : (u0 : Int) ≤ v0 := by omega
  push_cast
  have e1 : (v0 : Int) * (Y * S + be) - u0 * (X * S + al) = z * S + v0 * be - u0 * al := by rw [ez]; simp only [Int.mul_add, Int.sub_mul, Int.mul_assoc]; omega
  have e2 : (u1 : Int) * (X * S + al) - v1 * (Y * S + be) = x * S + u1 * al - v1 * be := by rw [ex]; simp only [Int.mul_add, Int.sub_mul, Int.mul_assoc]; omega
  have m1 : x * S + (v0 * S + v1 * S) ≤ z * S := by
    have := Int.mul_le_mul_of_nonneg_right cz hS'
    simp only [Int.add_mul] at this; omega
  have m2 : (v1 : Int) * S ≤ x * S := Int.mul_le_mul_of_nonneg_right cx hS'
  have m3 : (u0 : Int) * al ≤ u0 * S := Int.mul_le_mul_of_nonneg_left (by omega) hu0
  have m4 : (v1 : Int) * be ≤ v1 * S := Int.mul_le_mul_of_nonneg_left (by omega) hv1
  have m5 : (u1 : Int) * al ≤ u1 * S := Int.mul_le_mul_of_nonneg_left (by omega) hu1
  have m6 : (u1 : Int) * S ≤ v1 * S := Int.mul_le_mul_of_nonneg_right huv hS'
  have m7 : (u0 : Int) * S ≤ v0 * S := Int.mul_le_mul_of_nonneg_right huv0 hS'
  have p1 : (0 : Int) ≤ v0 * be := Int.mul_nonneg hv0 hbe0
  have p2 : (0 : Int) ≤ v1 * be := Int.mul_nonneg hv1 hbe0
  have p3 : (0 : Int) ≤ u1 * al := Int.mul_nonneg hu1 hal0
  have p4 : (0 : Int) ≤ v1 * S := Int.mul_nonneg hv1 hS'
  have p5 : (0 : Int) ≤ v0 * S := Int.mul_nonneg hv0 hS'
  have p6 : (0 : Int) ≤ u0 * al := Int.mul_nonneg hu0 hal0
  refine ⟨by omega, by omega, by omega⟩
/-- Two numbers that are made of two others, and these of them: the same divisors. -/
theorem gcd_made {a b c d p q r s : Nat} (h1 : a = p * c + q * d) (h2 : b = r * c + s * d) {p' q' r' s' : Int} (h3 : (c : Int) = p' * a + q' * b) (h4 : (d : Int) = r' * a + s' * b) : Nat.gcd c d = Nat.gcd a b := by
  apply Nat.dvd_antisymm
  · apply Nat.dvd_gcd
    · rw [h1]; exact Nat.dvd_add (Nat.dvd_trans (Nat.gcd_dvd_left c d) (Nat.dvd_mul_left _ _)) (Nat.dvd_trans (Nat.gcd_dvd_right c d) (Nat.dvd_mul_left _ _))
    · rw [h2]; exact Nat.dvd_add (Nat.dvd_trans (Nat.gcd_dvd_left c d) (Nat.dvd_mul_left _ _)) (Nat.dvd_trans (Nat.gcd_dvd_right c d) (Nat.dvd_mul_left _ _))
  · have ga : ((Nat.gcd a b : Nat) : Int) ∣ (a : Int) := Int.natCast_dvd_natCast.2 (Nat.gcd_dvd_left a b)
    have gb : ((Nat.gcd a b : Nat) : Int) ∣ (b : Int) := Int.natCast_dvd_natCast.2 (Nat.gcd_dvd_right a b)
    apply Nat.dvd_gcd
    · apply Int.natCast_dvd_natCast.1
      rw [h3]; exact Int.dvd_add (Int.dvd_mul_of_dvd_right ga) (Int.dvd_mul_of_dvd_right gb)
    · apply Int.natCast_dvd_natCast.1
      rw [h4]; exact Int.dvd_add (Int.dvd_mul_of_dvd_right ga) (Int.dvd_mul_of_dvd_right gb)

/-- Where foresee stands: x and y are what is left of X and Y. -/
structure Fore (X Y x y u0 v0 u1 v1 u2 v2 : Nat) (even : Bool) : Prop where
  sx : x * v2 + y * v1 = X
  sy : x * u2 + y * u1 = Y
  ex : (x : Int) = if even then (v1 : Int) * Y - u1 * X else (u1 : Int) * X - v1 * Y
  ey : (y : Int) = if even then (u2 : Int) * X - v2 * Y else (v2 : Int) * Y - u2 * X
  det : (u1 : Int) * v2 - v1 * u2 = if even then -1 else 1
  le : y ≤ x
  pos : 1 ≤ v2
  uv2 : u2 ≤ v2
  uvs : u1 + u2 ≤ v1 + v2
  us : 1 ≤ u1 + u2
  alt : (v1 = 0 ∧ even = false) ∨ (u1 ≤ v1 ∧ 1 ≤ u2)
  small : u1 < 4294967296 ∧ v1 < 4294967296
  done : v0 = 0 ∨ ∃ z x, Done X Y u0 v0 u1 v1 even z x
theorem Fore.start {X Y : Nat} (h : Y ≤ X) : Fore X Y X Y 0 0 1 0 0 1 false :=
  ⟨by omega, by omega, by simp, by simp, by simp, h, by omega, by omega, by omega, by omega, Or.inl ⟨rfl, rfl⟩, by omega, Or.inl rfl⟩
theorem sq32 {v x X : Nat} (h : v ≤ x) (h2 : x * v ≤ X) (hX : X < 18446744073709551616) : v < 4294967296 := by
  rcases Nat.lt_or_ge v 4294967296 with h1 | h1
  · exact h1
  · have : 4294967296 * 4294967296 ≤ x * v := Nat.mul_le_mul (by omega) h1
    omega
theorem Fore.step {X Y x y u0 v0 u1 v1 u2 v2 q : Nat} {even : Bool} (h : Fore X Y x y u0 v0 u1 v1 u2 v2 even) (hX : X < 18446744073709551616) (c1 : v2 ≤ y) (c2 : y + v1 + v2 ≤ x) (hq : q = x / y) :
    Fore X Y y (x - q * y) u1 v1 u2 v2 (u1 + q * u2) (v1 + q * v2) (!even) ∧ q * y ≤ x ∧ x - q * y < y ∧ v1 + q * v2 ≤ X ∧ u1 + q * u2 ≤ Y ∧ 1 ≤ y := by
  have hy : 1 ≤ y := Nat.le_trans h.pos c1
  have hq1 : 1 ≤ q := by rw [hq]; exact (Nat.le_div_iff_mul_le (by omega)).2 (by omega)
  have hqy : q * y ≤ x := by rw [hq]; exact Nat.div_mul_le_self x y
  have hm : x - q * y < y := by
    have := Nat.div_add_mod x y
    have h2 := Nat.mod_lt x (show 0 < y by omega)
    rw [hq, Nat.mul_comm]; omega
  obtain ⟨r, hr⟩ : ∃ r, x = q * y + r := ⟨x - q * y, by omega⟩
  have hr' : x - q * y = r := by omega
  rw [hr'] at hm ⊢
  have e1 : y * (v1 + q * v2) + r * v2 = X := by
    rw [← h.sx, hr, Nat.mul_add, Nat.add_mul, ← Nat.mul_assoc, Nat.mul_comm y q]; omega
  have e2 : y * (u1 + q * u2) + r * u2 = Y := by
    rw [← h.sy, hr, Nat.mul_add, Nat.add_mul, ← Nat.mul_assoc, Nat.mul_comm y q]; omega
  have hv2' : v1 + q * v2 ≤ X := by
    have := Nat.le_mul_of_pos_left (v1 + q * v2) (show 0 < y by omega); omega
  have hu2' : u1 + q * u2 ≤ Y := by
    have := Nat.le_mul_of_pos_left (u1 + q * u2) (show 0 < y by omega); omega
  have hv32 : v2 < 4294967296 := sq32 (x := x) (by omega) (by have := h.sx; omega) hX
  have q1 : u2 ≤ q * u2 := Nat.le_mul_of_pos_left _ (by omega)
  have q2 : v2 ≤ q * v2 := Nat.le_mul_of_pos_left _ (by omega)
  have q3 : q * u2 + v2 ≤ q * v2 + u2 := by
    obtain ⟨k, rfl⟩ : ∃ k, q = k + 1 := ⟨q - 1, by omega⟩
    have := Nat.mul_le_mul_left k h.uv2
    rw [Nat.add_mul, Nat.add_mul]; omega
  have hu := h.uvs
  have hus := h.us
  have huv := h.uv2
  have hpos := h.pos
  have hxr : (r : Int) = x - q * y := by omega
  refine ⟨⟨e1, e2, ?_, ?_, ?_, by omega, by omega, by omega, by omega, by omega, Or.inr ⟨huv, by omega⟩, by omega, ?_⟩, hqy, hm, hv2', hu2', hy⟩
  · have := h.ey
    cases even <;> simpa using this
  · have h1 := h.ex
    have h2 := h.ey
    rw [hxr]
    cases even
    · simp only [Bool.not_false, if_true, Bool.false_eq_true, if_false] at h1 h2 ⊢
      rw [h1, h2]
      push_cast
      simp only [Int.mul_sub, Int.add_mul, Int.mul_assoc]
      omega
    · simp only [Bool.not_true, if_true, Bool.false_eq_true, if_false] at h1 h2 ⊢
      rw [h1, h2]
      push_cast
      simp only [Int.mul_sub, Int.add_mul, Int.mul_assoc]
      omega
  · have h1 := h.det
    have e3 : (u2 : Int) * ((v1 + q * v2 : Nat) : Int) - v2 * ((u1 + q * u2 : Nat) : Int) = -((u1 : Int) * v2 - v1 * u2) := by
      push_cast
      simp only [Int.mul_add]
      rw [Int.mul_comm (u2 : Int) v1, Int.mul_comm (v2 : Int) u1, Int.mul_left_comm (u2 : Int) q v2, Int.mul_left_comm (v2 : Int) q u2, Int.mul_comm (v2 : Int) u2]
      omega
    rw [e3, h1]
    cases even <;> rfl
  · right
    refine ⟨x, y, ?_, ?_, ?_, by omega, by omega, ⟨h.small.1, h.small.2, by omega, hv32⟩, huv, ?_, ?_⟩
    · have := h.ex
      cases even <;> simpa using this
    · have := h.ey
      cases even <;> simpa using this
    · have := h.det
      cases even <;> simpa using this
    · rcases h.alt with ⟨h1, _⟩ | ⟨h1, h2⟩
      · exact Or.inl h1
      · exact Or.inr ⟨h1, h2⟩
    · intro h0
      rcases h.alt with ⟨_, h2⟩ | ⟨h1, h2⟩
      · rw [h2]; rfl
      · exfalso
        have h3 := h.det
        have h4 : u1 = 0 := by omega
        rw [h0, h4] at h3
        cases even <;> simp at h3
/-- A leap: what it makes of a and b. -/
theorem leap_made {a b X Y S u0 v0 u1 v1 : Nat} {even : Bool} {z x : Int} (hS : 0 < S) (ha1 : X * S ≤ a) (ha2 : a < X * S + S) (hb1 : Y * S ≤ b) (hb2 : b < Y * S + S) (hb0 : 0 < b)
    (hv0 : v0 ≠ 0) (h : Done X Y u0 v0 u1 v1 even z x) :
    ∃ c d : Nat, (if even = true then b * v0 + c = a * u0 ∧ a * u1 + d = b * v1 else a * u0 + c = b * v0 ∧ b * v1 + d = a * u1) ∧ d ≤ c ∧ c ≤ b ∧ Nat.gcd c d = Nat.gcd a b ∧ c + d < a + b := by
  obtain ⟨huv0, hu1⟩ : u0 ≤ v0 ∧ 1 ≤ u1 := by
    rcases h.back with h1 | h1
    · exact absurd h1 hv0
    · exact h1
  have huv := h.uv
  have key : ∃ c d : Nat, (if even = true then b * v0 + c = a * u0 ∧ a * u1 + d = b * v1 else a * u0 + c = b * v0 ∧ b * v1 + d = a * u1) ∧ d ≤ c ∧ a = v1 * c + v0 * d ∧ b = u1 * c + u0 * d ∧ ∃ p q r s : Int, (c : Int) = p * a + q * b ∧ (d : Int) = r * a + s * b := by
    cases he : even
    · have hez := h.ez; have hex := h.ex; have hdet := h.det
      rw [he] at hez hex hdet
      simp only [Bool.false_eq_true, if_false] at hez hex hdet ⊢
      obtain ⟨l1, l2, l3⟩ := leap_odd hS ha1 ha2 hb1 hb2 hez hex h.cx h.cz huv huv0
      obtain ⟨c, hc⟩ := Int.eq_ofNat_of_zero_le (show 0 ≤ (v0 : Int) * b - u0 * a by omega)
      obtain ⟨d, hd⟩ := Int.eq_ofNat_of_zero_le (show 0 ≤ (u1 : Int) * a - v1 * b by omega)
      have ia : (v1 : Int) * c + v0 * d = (a : Int) := by
        rw [← hc, ← hd]
        simp only [Int.mul_sub]
        have : (v1 : Int) * (v0 * b) - v1 * (u0 * a) + (v0 * (u1 * a) - v0 * (v1 * b)) = -((u0 : Int) * v1 - v0 * u1) * a := by
          simp only [Int.neg_mul, Int.sub_mul, Int.mul_assoc]
          rw [Int.mul_left_comm (v1 : Int) v0 b, Int.mul_left_comm (v1 : Int) u0 a]; omega
        rw [this, hdet]; omega
      have ib : (u1 : Int) * c + u0 * d = (b : Int) := by
        rw [← hc, ← hd]
        simp only [Int.mul_sub]
        have : (u1 : Int) * (v0 * b) - u1 * (u0 * a) + (u0 * (u1 * a) - u0 * (v1 * b)) = -((u0 : Int) * v1 - v0 * u1) * b := by
          simp only [Int.neg_mul, Int.sub_mul, Int.mul_assoc]
          rw [Int.mul_left_comm (u1 : Int) v0 b, Int.mul_left_comm (u1 : Int) u0 a]; omega
        rw [this, hdet]; omega
      refine ⟨c, d, ⟨?_, ?_⟩, by omega, ?_, ?_, -u0, v0, u1, -v1, ?_, ?_⟩
      · have : ((a * u0 + c : Nat) : Int) = ((b * v0 : Nat) : Int) := by push_cast; rw [Int.mul_comm (a : Int), Int.mul_comm (b : Int), ← hc]; omega
        exact Int.ofNat.inj this
      · have : ((b * v1 + d : Nat) : Int) = ((a * u1 : Nat) : Int) := by push_cast; rw [Int.mul_comm (a : Int), Int.mul_comm (b : Int), ← hd]; omega
        exact Int.ofNat.inj this
      · have : ((a : Nat) : Int) = ((v1 * c + v0 * d : Nat) : Int) := by push_cast; exact ia.symm
        exact Int.ofNat.inj this
      · have : ((b : Nat) : Int) = ((u1 * c + u0 * d : Nat) : Int) := by push_cast; exact ib.symm
        exact Int.ofNat.inj this
      · rw [← hc, Int.neg_mul]; omega
      · rw [← hd, Int.neg_mul]; omega
    · have hez := h.ez; have hex := h.ex; have hdet := h.det
      rw [he] at hez hex hdet
      simp only [if_true] at hez hex hdet ⊢
      obtain ⟨l1, l2, l3⟩ := leap_even hS ha1 ha2 hb1 hb2 hez hex h.cx h.cz huv
      obtain ⟨c, hc⟩ := Int.eq_ofNat_of_zero_le (show 0 ≤ (u0 : Int) * a - v0 * b by omega)
      obtain ⟨d, hd⟩ := Int.eq_ofNat_of_zero_le (show 0 ≤ (v1 : Int) * b - u1 * a by omega)
      have ia : (v1 : Int) * c + v0 * d = (a : Int) := by
        rw [← hc, ← hd]
        simp only [Int.mul_sub]
        have : (v1 : Int) * (u0 * a) - v1 * (v0 * b) + (v0 * (v1 * b) - v0 * (u1 * a)) = ((u0 : Int) * v1 - v0 * u1) * a := by
          simp only [Int.sub_mul, Int.mul_assoc]
          rw [Int.mul_left_comm (v1 : Int) v0 b, Int.mul_left_comm (v1 : Int) u0 a]; omega
        rw [this, hdet]; omega
      have ib : (u1 : Int) * c + u0 * d = (b : Int) := by
        rw [← hc, ← hd]
        simp only [Int.mul_sub]
        have : (u1 : Int) * (u0 * a) - u1 * (v0 * b) + (u0 * (v1 * b) - u0 * (u1 * a)) = ((u0 : Int) * v1 - v0 * u1) * b := by
          simp only [Int.sub_mul, Int.mul_assoc]
          rw [Int.mul_left_comm (u1 : Int) v0 b, Int.mul_left_comm (u1 : Int) u0 a]; omega
        rw [this, hdet]; omega
      refine ⟨c, d, ⟨?_, ?_⟩, by omega, ?_, ?_, u0, -v0, -u1, v1, ?_, ?_⟩
      · have : ((b * v0 + c : Nat) : Int) = ((a * u0 : Nat) : Int) := by push_cast; rw [Int.mul_comm (a : Int), Int.mul_comm (b : Int), ← hc]; omega
        exact Int.ofNat.inj this
      · have : ((a * u1 + d : Nat) : Int) = ((b * v1 : Nat) : Int) := by push_cast; rw [Int.mul_comm (a : Int), Int.mul_comm (b : Int), ← hd]; omega
        exact Int.ofNat.inj this
      · have : ((a : Nat) : Int) = ((v1 * c + v0 * d : Nat) : Int) := by push_cast; exact ia.symm
        exact Int.ofNat.inj this
      · have : ((b : Nat) : Int) = ((u1 * c + u0 * d : Nat) : Int) := by push_cast; exact ib.symm
        exact Int.ofNat.inj this
      · rw [← hc, Int.neg_mul]; omega
      · rw [← hd, Int.neg_mul]; omega
  obtain ⟨c, d, h1, h2, h3, h4, p, q, r, s, h5, h6⟩ := key
  refine ⟨c, d, h1, h2, ?_, gcd_made h3 h4 h5 h6, ?_⟩
  · have := Nat.le_mul_of_pos_left c (show 0 < u1 by omega); omega
  · have k1 := Nat.le_mul_of_pos_left c (show 0 < v1 by omega)
    have k2 := Nat.le_mul_of_pos_left d (show 0 < v0 by omega)
    omega
end Go.Proofs.YtaafijifiiiblaaGreat
