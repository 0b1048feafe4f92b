/-
  Proved here: how many bits a number has, by either way.
  Proved here: plain mathematics of a fraction's place among floats.
-/
import Derived.Test.YtaekaikkldnikaaCmpAll
import Derived.Lib.BitFns
namespace Go.Proofs.Ytaekaikkldnikaa
open Go.RowKit

/-- How many bits a number has. -/
def bl (n : Nat) : Nat := if n = 0 then 0 else n.log2 + 1
theorem bl_zero : bl 0 = 0 := rfl
theorem bl_unique {n m : Nat} (h1 : 2 ^ m ≤ n) (h2 : n < 2 ^ (m + 1)) : bl n = m + 1 := by
  have h0 : n ≠ 0 := by have := Nat.two_pow_pos m; omega
  have a := (Nat.le_log2 h0).2 h1
  have b := (Nat.log2_lt h0).2 h2
  unfold bl
  rw [if_neg h0]
  omega
theorem bl_bounds {n : Nat} (h : n ≠ 0) : ∃ m, bl n = m + 1 ∧ 2 ^ m ≤ n ∧ n < 2 ^ (m + 1) :=
  ⟨n.log2, by unfold bl; rw [if_neg h], (Nat.le_log2 h).1 (Nat.le_refl _), (Nat.log2_lt h).1 (Nat.lt_succ_self _)⟩
theorem bl_half {t : Nat} (h : t ≠ 0) : bl t = 1 + bl (t / 2) := by
  by_cases h1 : t = 1
  · subst h1; decide
  · obtain ⟨m, e, h2, h3⟩ := bl_bounds (n := t / 2) (by omega)
    rw [e, bl_unique (m := m + 1)]
    · omega
    · rw [Nat.pow_succ]; omega
    · rw [Nat.pow_succ]; omega
theorem pow_limb (k : Nat) : 4294967296 ^ k = 2 ^ (32 * k) := by rw [Nat.pow_mul]
theorem bl_top {r k t : Nat} (hr : r < 4294967296 ^ k) (ht : t ≠ 0) : bl (r + 4294967296 ^ k * t) = 32 * k + bl t := by
  obtain ⟨m, e, h2, h3⟩ := bl_bounds ht
  rw [e]
  refine bl_unique (m := 32 * k + m) ?_ ?_
  · rw [Nat.pow_add, ← pow_limb]
    have := Nat.mul_le_mul_left (4294967296 ^ k) h2
    omega
  · rw [show 32 * k + m + 1 = 32 * k + (m + 1) by omega, Nat.pow_add, ← pow_limb]
    have h4 : t + 1 ≤ 2 ^ (m + 1) := h3
    have := Nat.mul_le_mul_left (4294967296 ^ k) h4
    rw [Nat.mul_add, Nat.mul_one] at this
    omega
theorem bl_bitLen : ∀ (x : Nat), x < 18446744073709551616 → Lib.bitLen x = bl x := by
  intro x
  induction x using Nat.strongRecOn with
  | ind x ih =>
    intro hx
    by_cases h0 : x = 0
    · subst h0; rfl
    · rw [Lib.bitLen_half x h0 hx, ih (x / 2) (by omega) (by omega), bl_half h0]
theorem bl_le32 {x : Nat} (h : x < 4294967296) : bl x ≤ 32 := by
  rw [← bl_bitLen x (by omega)]
  exact Lib.bitLen_le x 32 (by omega) h
theorem lim_last {n : Nat} (h : n ≠ 0) : ∃ k t, (lim n).length = k + 1 ∧ (lim n).getD k 0 = t ∧ t ≠ 0 ∧ t < 4294967296 ∧ bl n = 32 * k + bl t := by
  have hne : lim n ≠ [] := by rw [lim_pos h]; simp
  obtain ⟨k, hk⟩ : ∃ k, (lim n).length = k + 1 := ⟨(lim n).length - 1, by have := List.length_pos_iff.2 hne; omega⟩
  have hs := low_succ (lim n) k
  rw [low_all (by omega), val_lim] at hs
  have hlo := low_lt (limbs_lim n) k
  have ht : (lim n).getD k 0 ≠ 0 := by
    intro h0
    rw [h0, Nat.mul_zero, Nat.add_zero] at hs
    have := lim_len_le (k := k) (n := n) (by omega)
    omega
  refine ⟨k, _, hk, rfl, ht, limb_lt (limbs_lim n) k, ?_⟩
  conv => lhs; rw [hs]
  exact bl_top hlo ht

set_option maxHeartbeats 4000000 in
set_option maxRecDepth 100000 in
theorem len32_any (x : Int) (w : World) (h0 : 0 ≤ x) (h1 : x ≤ 4294967295) :
    Calls Try.prog 66 #[.int .u32 x] w fun e w' => e = .returned (.int .i64 (bl x.toNat : Nat)) ∧ w' = w := by
  rw [← bl_bitLen x.toNat (by omega)]
  by_cases c1 : x < 256
  · have i0 : 0 ≤ x := by omega
    have i1 : x ≤ 255 := by omega
    have c2 : x < 65536 := by omega
    have hl := Lib.len8_of x i0 i1
    have hb := Lib.bitLen_le8' x i0 i1
    go_enter Try.func66, Try.ntmps66
    go_wp2
    go_ret
    refine ⟨congrArg Ending.returned (congrArg (Value.int IntKind.i64) ?_), rfl⟩
    rfl
  · by_cases c2 : x < 65536
    · have i0 : 0 ≤ x / 256 := by omega
      have i1 : x / 256 ≤ 255 := by omega
      have hl := Lib.len8_of (x / 256) i0 i1
      have hb := Lib.bitLen_le8' (x / 256) i0 i1
      have HE : Hid ((Lib.bitLen x.toNat : Int) = 8 + (Lib.bitLen (x / 256).toNat : Int)) := by
        show _ = _
        rw [Lib.bitLen_shift8 x.toNat (by omega) (by omega), show (x / 256).toNat = x.toNat / 256 by omega]
        omega
      obtain ⟨r, hr⟩ : ∃ r, r = Lib.bitLen (x / 256).toNat := ⟨_, rfl⟩
      rw [← hr] at hl hb
      have HR : Hid (r = Lib.bitLen (x / 256).toNat) := hr
      clear hr
      go_enter Try.func66, Try.ntmps66
      go_wp2
      go_ret
      refine ⟨congrArg Ending.returned (congrArg (Value.int IntKind.i64) ?_), rfl⟩
      rw [HE.out, ← HR.out]
    · by_cases c3 : x / 65536 < 256
      · have i0 : 0 ≤ x / 65536 := by omega
        have i1 : x / 65536 ≤ 255 := by omega
        have hl := Lib.len8_of (x / 65536) i0 i1
        have hb := Lib.bitLen_le8' (x / 65536) i0 i1
        have HE : Hid ((Lib.bitLen x.toNat : Int) = 16 + (Lib.bitLen (x / 65536).toNat : Int)) := by
          show _ = _
          rw [Lib.bitLen_shift16 x.toNat (by omega) (by omega), show (x / 65536).toNat = x.toNat / 65536 by omega]
          omega
        obtain ⟨r, hr⟩ : ∃ r, r = Lib.bitLen (x / 65536).toNat := ⟨_, rfl⟩
        rw [← hr] at hl hb
        have HR : Hid (r = Lib.bitLen (x / 65536).toNat) := hr
        clear hr
        go_enter Try.func66, Try.ntmps66
        go_wp2
        go_ret
        refine ⟨congrArg Ending.returned (congrArg (Value.int IntKind.i64) ?_), rfl⟩
        rw [HE.out, ← HR.out]
      · have i0 : 0 ≤ x / 65536 / 256 := by omega
        have i1 : x / 65536 / 256 ≤ 255 := by omega
        have hl := Lib.len8_of (x / 65536 / 256) i0 i1
        have hb := Lib.bitLen_le8' (x / 65536 / 256) i0 i1
        have HE : Hid ((Lib.bitLen x.toNat : Int) = 24 + (Lib.bitLen (x / 65536 / 256).toNat : Int)) := by
          show _ = _
          rw [Lib.bitLen_shift24 x.toNat (by omega) (by omega), show (x / 65536 / 256).toNat = x.toNat / 16777216 by omega]
          omega
        obtain ⟨r, hr⟩ : ∃ r, r = Lib.bitLen (x / 65536 / 256).toNat := ⟨_, rfl⟩
        rw [← hr] at hl hb
        have HR : Hid (r = Lib.bitLen (x / 65536 / 256).toNat) := hr
        clear hr
        go_enter Try.func66, Try.ntmps66
        go_wp2
        go_ret
        refine ⟨congrArg Ending.returned (congrArg (Value.int IntKind.i64) ?_), rfl⟩
        rw [HE.out, ← HR.out]

set_option maxRecDepth 100000 in
set_option maxHeartbeats 800000 in
theorem bits_any (v : Value) (xs : List Nat) (w : World) (h : Num w v xs) (hlen : xs.length ≤ 1099511627776) :
    Calls Try.prog 58 #[v] w fun e w' => e = .returned (.int .i64 (bl (val xs) : Nat)) ∧ w' = w := by
  obtain ⟨ao, cap, rfl, hl1, hm1⟩ := h.ao
  go_enter Try.func58, Try.ntmps58
  go_wp2_with fail
  refine (trim_any _ _ _ h).mono ?_
  rintro e w1 ⟨⟨k, hk, hk2, rfl⟩, rfl⟩
  simp only [cutTo]
  have hkl : k = (lim (val xs)).length := by rw [← hk2, List.length_take, Nat.min_eq_left hk]
  have nu := h.cut hk
  rw [hk2] at nu
  simp only [cutTo] at nu
  have hle1 : k ≤ 1099511627776 := by omega
  clear h hk2
  by_cases h0 : val xs = 0
  · rw [h0, lim_zero] at hkl
    have hk0 : ((k : Int) == 0) = true := by simp [hkl]
    have HB : Hid (bl (val xs) = 0) := by show _ = _; rw [h0]; rfl
    clear hkl nu h0
    go_wp2
    go_ret
    exact ⟨by rw [HB.out]; rfl, rfl⟩
  · obtain ⟨m, t, e1, e2, ht, ht2, e3⟩ := lim_last h0
    have hkm : k = m + 1 := by omega
    have hk0 : ((k : Int) == 0) = false := by simp; omega
    obtain ⟨_, aox, capx, ex, _, _, _, cx⟩ := nu.open_
    simp only [Value.slice.injEq] at ex
    obtain ⟨rfl, hq1, rfl⟩ := ex
    obtain ⟨b, off, rfl, hc0⟩ := cx m (by omega)
    rw [e2] at hc0
    have HB : Hid (bl (val xs) = 32 * m + bl t) := e3
    have hb32 := bl_le32 ht2
    have HKM : Hid (k = m + 1) := hkm
    subst hkm
    clear e1 e2 e3 hkl hq1 cx nu h0
    go_wp2_with fail
    refine (len32_any _ _ (by omega) (by omega)).mono ?_
    rintro e w2 ⟨rfl, rfl⟩
    rw [Int.toNat_natCast]
    obtain ⟨bt, hbt⟩ : ∃ bt, bt = bl t := ⟨_, rfl⟩
    rw [← hbt] at hb32 ⊢
    have HBT : Hid (bt = bl t) := hbt
    clear hbt
    go_wp2
    go_ret
    refine ⟨congrArg Ending.returned (congrArg (Value.int IntKind.i64) ?_), rfl⟩
    rw [HB.out, ← HBT.out]
    omega

end Go.Proofs.Ytaekaikkldnikaa

namespace Go.Proofs.Ytaekaikkldnikaa

/-- A number times 2 ^ n; itself, if n is not above 0. -/
def up (x : Nat) (n : Int) : Nat := x * 2 ^ n.toNat
/-- The exponent of the greatest power of 2 that is not above N / D. -/
def leadF (N D : Nat) : Int := if up N (-((bl N : Int) - bl D)) < up D ((bl N : Int) - bl D) then (bl N : Int) - bl D - 1 else (bl N : Int) - bl D
def expF (d : Nat) (l : Int) (N D : Nat) : Int := max (leadF N D + 1 - d) l
def shareF (r s : Nat) : Int := if r = 0 then 0 else 2 + cmpN (up r 1) s
def unitsF (d : Nat) (l : Int) (N D : Nat) : Nat := up N (-expF d l N D) / up D (expF d l N D)
def restF (d : Nat) (l : Int) (N D : Nat) : Nat := up N (-expF d l N D) % up D (expF d l N D)
def belowF (d : Nat) (l : Int) (N D : Nat) : Nat := unitsF d l N D + (expF d l N D - l).toNat * 2 ^ (d - 1)
def infF (d : Nat) (l t : Int) : Nat := 2 ^ d + (t - d - l).toNat * 2 ^ (d - 1)
/-- The place of a size that is neither 0 nor far out. -/
def divideF (d : Nat) (l t : Int) (N D : Nat) : Nat × Int :=
  if infF d l t ≤ belowF d l N D then (infF d l t - 1, 3) else (belowF d l N D, shareF (restF d l N D) (up D (expF d l N D)))
/-- The place of a fraction's size. -/
def findF (d : Nat) (l t : Int) (N D : Nat) : Nat × Int :=
  if bl N = 0 then (0, 0) else if t < (bl N : Int) - bl D then (infF d l t - 1, 3) else if (bl N : Int) - bl D < l - 1 then (0, 1) else divideF d l t N D
def nearestF (p : Nat × Int) : Nat := if p.2 = 3 ∨ (p.2 = 2 ∧ p.1 % 2 = 1) then p.1 + 1 else p.1

theorem lt_scale {N D : Nat} {k : Int} {c : Nat} (hc : k.toNat ≤ c) : up N (-k) < up D k ↔ N * 2 ^ ((c : Int) - k).toNat < D * 2 ^ c := by
  unfold up
  have e1 : ((c : Int) - k).toNat = (-k).toNat + (c - k.toNat) := by omega
  have e2 : c = k.toNat + (c - k.toNat) := by omega
  rw [e1, Nat.pow_add, ← Nat.mul_assoc]
  conv => rhs; rhs; rw [e2, Nat.pow_add, ← Nat.mul_assoc]
  exact (Nat.mul_lt_mul_right (Nat.two_pow_pos _)).symm

theorem up_mono {N D : Nat} {k m : Int} (h : up N (-k) < up D k) (hm : k ≤ m) : up N (-m) < up D m := by
  obtain ⟨c, hc⟩ : ∃ c, c = max k.toNat m.toNat := ⟨_, rfl⟩
  rw [lt_scale (c := c) (by omega)] at h ⊢
  refine Nat.lt_of_le_of_lt (Nat.mul_le_mul_left _ (Nat.pow_le_pow_right (by decide) ?_)) h
  omega

theorem guess_hi {N D : Nat} (hN : N ≠ 0) (hD : D ≠ 0) : up N (-((bl N : Int) - bl D + 1)) < up D ((bl N : Int) - bl D + 1) := by
  obtain ⟨a, ea, _, h2⟩ := bl_bounds hN
  obtain ⟨b, eb, h3, _⟩ := bl_bounds hD
  rw [lt_scale (c := a + 1) (by omega), ea, eb]
  have e : (((a + 1 : Nat) : Int) - (((a + 1 : Nat) : Int) - ((b + 1 : Nat) : Int) + 1)).toNat = b := by omega
  rw [e]
  calc N * 2 ^ b < 2 ^ (a + 1) * 2 ^ b := Nat.mul_lt_mul_of_pos_right h2 (Nat.two_pow_pos _)
    _ = 2 ^ b * 2 ^ (a + 1) := Nat.mul_comm _ _
    _ ≤ D * 2 ^ (a + 1) := Nat.mul_le_mul_right _ h3

theorem lead_hi {N D : Nat} (hN : N ≠ 0) (hD : D ≠ 0) : up N (-(leadF N D + 1)) < up D (leadF N D + 1) := by
  unfold leadF
  split
  · rename_i h
    rw [show (bl N : Int) - bl D - 1 + 1 = (bl N : Int) - bl D by omega]
    exact h
  · exact guess_hi hN hD

theorem lead_le (N D : Nat) : leadF N D ≤ (bl N : Int) - bl D := by unfold leadF; split <;> omega
theorem lead_ge (N D : Nat) : (bl N : Int) - bl D - 1 ≤ leadF N D := by unfold leadF; split <;> omega

theorem up_pos {D : Nat} (hD : D ≠ 0) (k : Int) : 0 < up D k := Nat.mul_pos (by omega) (Nat.two_pow_pos _)

theorem units_lt {N D d : Nat} {l : Int} (hN : N ≠ 0) (hD : D ≠ 0) : unitsF d l N D < 2 ^ d := by
  unfold unitsF
  obtain ⟨e, he⟩ : ∃ e, e = expF d l N D := ⟨_, rfl⟩
  have hle : leadF N D + 1 ≤ e + d := by rw [he]; unfold expF; omega
  rw [← he]
  have h := up_mono (lead_hi hN hD) hle
  rw [Nat.div_lt_iff_lt_mul (up_pos hD e)]
  obtain ⟨c, hc⟩ : ∃ c : Nat, c = max e.toNat (e + d).toNat := ⟨_, rfl⟩
  have h2 := (lt_scale (N := N) (D := D) (k := e + d) (c := c) (by omega)).1 h
  have h3 : up N (-e) < 2 ^ d * up D e ↔ up N (-e) < up (D * 2 ^ d) e := by
    unfold up
    rw [Nat.mul_comm (2 ^ d), Nat.mul_assoc, Nat.mul_assoc, Nat.mul_comm (2 ^ e.toNat)]
  rw [h3, lt_scale (c := c) (by omega)]
  have e1 : ((c : Int) - e).toNat = ((c : Int) - (e + d)).toNat + d := by omega
  rw [e1, Nat.pow_add, ← Nat.mul_assoc]
  calc N * 2 ^ ((c : Int) - (e + d)).toNat * 2 ^ d < D * 2 ^ c * 2 ^ d := Nat.mul_lt_mul_of_pos_right h2 (Nat.two_pow_pos _)
    _ = D * 2 ^ d * 2 ^ c := Nat.mul_right_comm _ _ _
end Go.Proofs.Ytaekaikkldnikaa
