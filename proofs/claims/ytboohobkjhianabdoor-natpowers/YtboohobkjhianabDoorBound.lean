/-
  Proved here: what bound answers; facts on powers and shifts.
-/
import Derived.Test.YtboohobkjhianabDoorPowMath
import Derived.Test.YtboohobkjhianabDoorShiftMath
namespace Go.Proofs.YtboohobkjhianabDoor
open Go.RowKit

set_option maxRecDepth 100000 in
set_option maxHeartbeats 800000 in
theorem bound_any (k : Int) (n : Nat) (w : World) (hn : n ≤ 100000) :
    Calls Tryd.prog 25 #[.int .i64 k, .int .i64 (n : Int)] w fun e w' => (∃ r : Nat, e = .returned (.int .i64 (r : Int)) ∧ r ≤ n) ∧ w' = w := by
  obtain ⟨t, ht⟩ : ∃ t, t = k.tmod ((n : Int) + 1) := ⟨_, rfl⟩
  have h1 : -((n : Int) + 1) < t ∧ t < (n : Int) + 1 := by
    rw [ht]
    constructor
    · have := Int.tmod_lt_of_pos (-k) (b := (n : Int) + 1) (by omega)
      rw [Int.neg_tmod] at this
      omega
    · exact Int.tmod_lt_of_pos k (by omega)
  have e1 : k.tmod ((n : Int) + 1) = t := ht.symm
  have hz : ((n : Int) + 1 == 0) = false := by simp; omega
  clear ht
  by_cases h0 : t < 0
  · have HE : Hid (∃ r : Nat, (.returned (.int .i64 (t + (n : Int) + 1)) : Ending) = .returned (.int .i64 (r : Int)) ∧ r ≤ n) := ⟨(t + n + 1).toNat, by congr 2; omega, by omega⟩
    go_enter Tryd.func25, Tryd.ntmps25
    go_wp2
    go_ret
    exact ⟨HE.out, rfl⟩
  · have HE : Hid (∃ r : Nat, (.returned (.int .i64 t) : Ending) = .returned (.int .i64 (r : Int)) ∧ r ≤ n) := ⟨t.toNat, by congr 2; omega, by omega⟩
    go_enter Tryd.func25, Tryd.ntmps25
    go_wp2
    go_ret
    exact ⟨HE.out, rfl⟩
theorem shl_nat (v i : Nat) : shl v (i : Int) = v * 2 ^ i := by unfold shl; rw [if_pos (by omega), Int.toNat_natCast]
theorem shl_neg (v i : Nat) : shl v (-(i : Int)) = v / 2 ^ i := by
  unfold shl
  by_cases h : 0 ≤ -(i : Int)
  · have : i = 0 := by omega
    subst this; simp
  · rw [if_neg h, Int.neg_neg, Int.toNat_natCast]
theorem shl_top {v b : Nat} (hb : b = bl v) : shl v (-(b : Int)) = 0 := by
  rw [shl_neg, hb]; exact Nat.div_eq_of_lt (bl_lt' v)
theorem shl_last {v b : Nat} (hb : b = bl v) (hv : v ≠ 0) : shl v (1 - (b : Int)) = 1 := by
  obtain ⟨m, e, h1, h2⟩ := bl_bounds hv
  rw [show (1 : Int) - (b : Int) = -((m : Nat) : Int) by omega, shl_neg]
  rw [Nat.pow_succ] at h2
  exact Nat.div_eq_of_lt_le (by omega) (by omega)
theorem pow_bits {A e k : Nat} (h : A < 2 ^ k) : bl (A ^ e) ≤ k * e + 1 := by
  rw [bl_le_iff, Nat.pow_succ, Nat.pow_mul]
  have h1 : A ^ e ≤ (2 ^ k) ^ e := Nat.pow_le_pow_left (Nat.le_of_lt h) e
  have h2 : 0 < (2 ^ k) ^ e := Nat.pow_pos (Nat.two_pow_pos _)
  omega
theorem pow_small {A e k : Nat} (h : A < 2 ^ k) (hk : k ≤ 640) (he : e ≤ 200) : bl (A ^ e) ≤ 262144 := by
  have h1 := pow_bits (e := e) h
  have h2 : k * e ≤ 640 * 200 := Nat.mul_le_mul hk he
  omega
theorem two_bits (i : Nat) : bl (2 ^ i) = i + 1 := bl_unique (Nat.le_refl _) (Nat.pow_lt_pow_right (by decide) (by omega))
theorem lim_bits {A L M : Nat} (h : (lim A).length ≤ L) (hM : M = 32 * L) : A < 2 ^ M := by rw [hM, ← pow_limb]; exact lim_lt_of_len h
end Go.Proofs.YtboohobkjhianabDoor
