/-
  Proved here: plain facts on shifts of numbers and of their limbs. No condition.
-/
import Derived.Test.YtaafijifiiiblaaGreatCmpAll
namespace Go.Proofs.YtaafijifiiiblaaGreat

theorem B_split {r : Nat} (hr : r ≤ 32) : 4294967296 = 2 ^ r * 2 ^ (32 - r) := by
  rw [← Nat.pow_add, show r + (32 - r) = 32 by omega]
theorem val_drop (X : List Nat) (hX : limbs X) (k : Nat) (hk : k ≤ X.length) : val (X.drop k) = val X / 4294967296 ^ k := by
  rw [val_split X k hk, Nat.add_mul_div_left _ _ (Nat.pow_pos (by decide)), Nat.div_eq_of_lt (low_lt hX k), Nat.zero_add]
/-- A limb is a digit. -/
theorem limb_digit {X : List Nat} (hX : limbs X) (k : Nat) : X.getD k 0 = val X / 4294967296 ^ k % 4294967296 := by
  rcases Nat.lt_or_ge k X.length with hk | hk
  · rw [← val_drop X hX k (by omega), val_tail, getD_drop, Nat.add_zero, Nat.add_mul_mod_self_left, Nat.mod_eq_of_lt (limb_lt hX k)]
  · rw [getD_ge hk, Nat.div_eq_of_lt (Nat.lt_of_lt_of_le (val_lt hX) (Nat.pow_le_pow_right (by decide) hk))]
theorem two_limbs {X : List Nat} (hX : limbs X) (k : Nat) : ∃ R, val X / 4294967296 ^ k = X.getD k 0 + 4294967296 * X.getD (k + 1) 0 + 4294967296 * 4294967296 * R := by
  refine ⟨val X / 4294967296 ^ (k + 1 + 1), ?_⟩
  have h1 := limb_digit hX k
  have h2 := limb_digit hX (k + 1)
  have e1 : val X / 4294967296 ^ (k + 1) = val X / 4294967296 ^ k / 4294967296 := by rw [Nat.pow_succ, Nat.div_div_eq_div_mul]
  have e2 : val X / 4294967296 ^ (k + 1 + 1) = val X / 4294967296 ^ (k + 1) / 4294967296 := by rw [Nat.pow_succ _ (k + 1), Nat.div_div_eq_div_mul]
  rw [h1, h2, e2, e1]
  omega
/-- A limb of a quotient by a small power of two. -/
theorem drop_digit {X : List Nat} (hX : limbs X) (k off : Nat) (ho : off ≤ 32) : (X.getD k 0 + 4294967296 * X.getD (k + 1) 0) / 2 ^ off % 4294967296 = val X / 4294967296 ^ k / 2 ^ off % 4294967296 := by
  obtain ⟨R, hR⟩ := two_limbs hX k
  have hp : 0 < 2 ^ off := Nat.two_pow_pos off
  rw [hR]
  have e : 4294967296 * 4294967296 * R = 2 ^ off * (4294967296 * (2 ^ (32 - off) * R)) := by
    conv => lhs; rw [B_split ho]
    conv => rhs; rw [B_split ho]
    simp only [Nat.mul_comm, Nat.mul_left_comm]
  rw [e, Nat.add_mul_div_left _ _ hp, Nat.add_mul_mod_self_left]
theorem drop_step {Z zs : List Nat} {i off : Nat} (hZ : limbs Z) (ho : off ≤ 32) (hi : i < zs.length) (h : low zs i = val Z / 2 ^ off % 4294967296 ^ i) :
    low (zs.set i ((Z.getD i 0 + 4294967296 * Z.getD (i + 1) 0) / 2 ^ off % 4294967296)) (i + 1) = val Z / 2 ^ off % 4294967296 ^ (i + 1) := by
  rw [low_set_succ _ _ _ hi, h, drop_digit hZ i off ho, Nat.mod_pow_succ]
  congr 2
  rw [Nat.div_div_eq_div_mul, Nat.div_div_eq_div_mul, Nat.mul_comm]
theorem drop_done {Z zs : List Nat} {off : Nat} (hZ : limbs Z) (hl : zs.length = Z.length) (h : low zs zs.length = val Z / 2 ^ off % 4294967296 ^ zs.length) : val zs = val Z / 2 ^ off := by
  rw [low_all (Nat.le_refl _)] at h
  rw [h]
  apply Nat.mod_eq_of_lt
  rw [hl]
  exact Nat.lt_of_le_of_lt (Nat.div_le_self _ _) (val_lt hZ)

theorem or_lift {c t off : Nat} (ho : off ≤ 32) (hc : c < 2 ^ off) : c ||| (t * 2 ^ off % 4294967296) = c + t * 2 ^ off % 4294967296 := by
  have e : t * 2 ^ off % 4294967296 = t % 2 ^ (32 - off) * 2 ^ off := by
    conv => lhs; rw [B_split ho, Nat.mul_comm t]
    rw [Nat.mul_mod_mul_left, Nat.mul_comm]
  rw [e, Nat.or_comm]
  have := Nat.shiftLeft_add_eq_or_of_lt hc (t % 2 ^ (32 - off))
  rw [Nat.shiftLeft_eq] at this
  omega
theorem lift_fits {c x off : Nat} (ho : off ≤ 32) (hc : c < 2 ^ off) : c + x * 2 ^ off % 4294967296 < 4294967296 := by
  have e : x * 2 ^ off % 4294967296 = x % 2 ^ (32 - off) * 2 ^ off := by
    conv => lhs; rw [B_split ho, Nat.mul_comm x]
    rw [Nat.mul_mod_mul_left, Nat.mul_comm]
  rw [e]
  have h1 : x % 2 ^ (32 - off) < 2 ^ (32 - off) := Nat.mod_lt _ (Nat.two_pow_pos _)
  have h2 : (x % 2 ^ (32 - off) + 1) * 2 ^ off ≤ 2 ^ (32 - off) * 2 ^ off := Nat.mul_le_mul_right _ h1
  rw [Nat.mul_comm (2 ^ (32 - off)), ← B_split ho, Nat.add_mul] at h2
  omega
theorem lift_high {x off : Nat} (hx : x < 4294967296) : x * 2 ^ off / 4294967296 < 2 ^ off := by
  apply Nat.div_lt_of_lt_mul
  exact Nat.mul_lt_mul_of_pos_right hx (Nat.two_pow_pos off)
theorem lift_step {X zs : List Nat} {i s off c : Nat} (hi : i + s + 1 < zs.length) (h : low zs (i + s) + 4294967296 ^ (i + s) * c = 4294967296 ^ s * (low X i * 2 ^ off)) (y : Nat) :
    low ((zs.set (i + s) (c + X.getD i 0 * 2 ^ off % 4294967296)).set (i + s + 1) y) (i + 1 + s) + 4294967296 ^ (i + 1 + s) * (X.getD i 0 * 2 ^ off / 4294967296) = 4294967296 ^ s * (low X (i + 1) * 2 ^ off) := by
  rw [show i + 1 + s = i + s + 1 by omega, low_set_ge _ _ _ _ (Nat.le_refl _), low_set_succ _ _ _ (by omega), low_succ, Nat.pow_succ]
  have e := carry_eq (4294967296 ^ (i + s)) (X.getD i 0 * 2 ^ off)
  have e2 : 4294967296 ^ (i + s) * (X.getD i 0 * 2 ^ off) = 4294967296 ^ s * (4294967296 ^ i * X.getD i 0 * 2 ^ off) := by
    rw [Nat.pow_add]
    simp only [Nat.mul_assoc, Nat.mul_comm, Nat.mul_left_comm]
  rw [Nat.mul_add, Nat.add_mul, Nat.mul_add]
  omega
theorem lift_done {X zs : List Nat} {k s off c : Nat} (hk : k = X.length) (hl : zs.length = k + s + 1) (hc : zs.getD (k + s) 0 = c) (h : low zs (k + s) + 4294967296 ^ (k + s) * c = 4294967296 ^ s * (low X k * 2 ^ off)) : val zs = val X * 2 ^ (32 * s + off) := by
  have e := low_succ zs (k + s)
  rw [low_all (by omega), hc, h, low_all (by omega)] at e
  rw [e, Nat.pow_add, show 2 ^ (32 * s) = 4294967296 ^ s by rw [Nat.pow_mul]]
  simp only [Nat.mul_assoc, Nat.mul_comm, Nat.mul_left_comm]

theorem val_set_add (zs : List Nat) (k d : Nat) (hk : k < zs.length) : val (zs.set k (zs.getD k 0 + d)) = val zs + 4294967296 ^ k * d := by
  have e1 := val_split (zs.set k (zs.getD k 0 + d)) (k + 1) (by simp; omega)
  have e2 := val_split zs (k + 1) (by omega)
  rw [low_set_succ _ _ _ hk, List.drop_set_of_lt (by omega)] at e1
  rw [low_succ] at e2
  rw [e1, e2, Nat.mul_add]
  omega
/-- A number, shifted. -/
def shl (v : Nat) (n : Int) : Nat := if 0 ≤ n then v * 2 ^ n.toNat else v / 2 ^ (-n).toNat
theorem bit_digit {xs : List Nat} (hx : limbs xs) (k r : Nat) (hr : r < 32) : xs.getD k 0 / 2 ^ r % 2 = val xs / 2 ^ (32 * k + r) % 2 := by
  rw [limb_digit hx k, Nat.pow_add, Nat.pow_mul, show (2 : Nat) ^ 32 = 4294967296 from rfl, ← Nat.div_div_eq_div_mul]
  generalize val xs / 4294967296 ^ k = Y
  have hd := Nat.div_add_mod Y 4294967296
  conv => rhs; rw [← hd]
  generalize Y / 4294967296 = q
  rw [show 4294967296 * q = 2 ^ r * (2 * (2 ^ (31 - r) * q)) by
    conv => lhs; rw [show (4294967296 : Nat) = 2 ^ r * (2 * 2 ^ (31 - r)) by rw [← Nat.pow_succ', ← Nat.pow_add, show r + (31 - r + 1) = 32 by omega]]
    simp only [Nat.mul_assoc]]
  rw [Nat.add_comm, Nat.add_mul_div_left _ _ (Nat.two_pow_pos r), Nat.add_mul_mod_self_left]
theorem pow_place (i : Nat) : 2 ^ i = 4294967296 ^ (i / 32) * 2 ^ (i % 32) := by
  rw [show (4294967296 : Nat) = 2 ^ 32 from rfl, ← Nat.pow_mul, ← Nat.pow_add]
  congr 1
  omega
end Go.Proofs.YtaafijifiiiblaaGreat
