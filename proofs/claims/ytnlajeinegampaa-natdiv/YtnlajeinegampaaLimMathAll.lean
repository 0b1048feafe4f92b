/-
  Proved here: what Shift answers, and what the plain way's Bit answers.
  Proved here: what the plain way's Bit answers.
  Proved here: what the plain way's Shift answers.
  Proved here: when limbs are a number's normal ones. No condition.
-/
import Derived.Test.YtnlajeinegampaaLift
import Derived.Test.YtnlajeinegampaaBitsAll
import Derived.Test.YtnlajeinegampaaRefAAll
import Derived.Deep.RegionHeld3
namespace Go.Proofs.Ytnlajeinegampaa
open Go.RowKit

/-- What a maker that may refuse leaves. -/
def MadeOk (B : Nat) (w : World) (xs : List Nat) (en : Ending) (w' : World) : Prop := ∃ v, en = .returned (.tuple #[v, .int .i64 0]) ∧ Own B 40 w' v xs ∧ Below B w w'

set_option maxRecDepth 100000 in
theorem shift_bad (v : Value) (n : Int) (w : World) (hn : n < -262144 ∨ 262144 < n) :
    Calls Try.prog 131 #[v, .int .i64 n] w fun e w' => e = .returned (.tuple #[.slice none 0 0, .int .i64 3]) ∧ w' = w := by
  rcases hn with hn | hn
  · have d1 : decide (n < -262144) = true := decide_eq_true hn
    go_enter Try.func131, Try.ntmps131
    go_wp2
    go_ret2
    exact ⟨rfl, rfl⟩
  · have h1 : ¬ n < -262144 := by omega
    have d1 : decide (n < -262144) = false := decide_eq_false h1
    go_enter Try.func131, Try.ntmps131
    go_wp2
    go_ret2
    exact ⟨rfl, rfl⟩

set_option maxRecDepth 100000 in
set_option maxHeartbeats 800000 in
theorem shift_ok (v : Value) (xs : List Nat) (n : Int) (w : World) (h : Num w v xs) (hlen : xs.length ≤ 549755813888) (hn1 : -262144 ≤ n) (hn2 : n ≤ 262144) :
    Calls Try.prog 131 #[v, .int .i64 n] w fun e w' => MadeOk w.heap.size w (lim (shl (val xs) n)) e w' := by
  have h1 : ¬ n < -262144 := by omega
  have h2 : ¬ 262144 < n := by omega
  have hls := lim_short h
  obtain ⟨ao, cap, rfl, hl1, hm1⟩ := h.ao
  by_cases h0 : 0 ≤ n
  · obtain ⟨m, rfl⟩ := Int.eq_ofNat_of_zero_le h0
    have h3 : ¬ (m : Int) < 0 := by omega
    have HS : Hid (shl (val xs) (m : Int) = val (lim (val xs)) * 2 ^ m) := by show _ = _; unfold shl; rw [if_pos h0, Int.toNat_natCast, val_lim]
    go_enter Try.func131, Try.ntmps131
    go_wp2_with fail
    refine (trim_any _ _ _ h).mono ?_
    rintro e w1 ⟨⟨k, hk, hk2, rfl⟩, rfl⟩
    have nu := h.cut hk
    rw [hk2] at nu
    clear h
    go_wp2_with fail
    refine (lift_any _ _ _ _ nu (by omega) (by omega)).mono ?_
    rintro e w2 ⟨zs, rfl, hzl, hcs, hval, hb⟩
    have how : Own w1.heap.size 40 w2 (.slice (some ⟨w1.heap.size, 0, none⟩) zs.length zs.length) zs := hcs.own (Nat.le_refl _) (by rw [hzl]; omega)
    rw [hzl] at how
    have HV : Hid (val zs = shl (val xs) (m : Int)) := by show _ = _; rw [HS.out]; exact hval
    clear hzl hcs hval nu hk2
    go_wp2_with fail
    refine (trim_any _ _ _ how.num).mono ?_
    rintro e w3 ⟨⟨k3, hk3, hk4, rfl⟩, rfl⟩
    have how2 := how.cut hk3
    rw [hk4, HV.out] at how2
    clear how hk4
    go_wp2
    go_ret2
    exact ⟨_, rfl, how2, hb⟩
  · obtain ⟨m, hm⟩ : ∃ m : Nat, n = -(m : Int) := ⟨(-n).toNat, by omega⟩
    have HS : Hid (shl (val xs) n = val (lim (val xs)) / 2 ^ m) := by show _ = _; unfold shl; rw [if_neg h0, val_lim, hm]; simp
    subst hm
    have h3 : -(m : Int) < 0 := by omega
    go_enter Try.func131, Try.ntmps131
    go_wp2_with fail
    refine (trim_any _ _ _ h).mono ?_
    rintro e w1 ⟨⟨k, hk, hk2, rfl⟩, rfl⟩
    have nu := h.cut hk
    rw [hk2] at nu
    clear h
    go_wp2_with fail
    refine (drop_any _ _ _ _ nu (by omega) (by omega)).mono ?_
    rintro e w2 ⟨v2, rfl, ho, hb⟩
    rw [← HS.out] at ho
    clear nu hk2
    go_wp2
    go_ret2
    exact ⟨_, rfl, ho, hb⟩

end Go.Proofs.Ytnlajeinegampaa

namespace Go.Proofs.Ytnlajeinegampaa
open Go.RowKit

set_option maxRecDepth 100000 in
theorem bit_ref (v : Value) (xs : List Nat) (i : Int) (w : World) (h : Num w v xs) (hi : 0 ≤ i) (hi2 : i ≤ 1000000) :
    Calls Try.prog 33 #[v, .int .i64 i] w fun e w' => e = .returned (.int .u32 ((val xs / 2 ^ i.toNat % 2 : Nat) : Int)) ∧ w' = w := by
  obtain ⟨k, rfl⟩ := Int.eq_ofNat_of_zero_le hi
  rw [Int.toNat_natCast]
  obtain ⟨q, hq⟩ : ∃ q, q = k / 32 := ⟨_, rfl⟩
  obtain ⟨r, hr⟩ : ∃ r, r = k % 32 := ⟨_, rfl⟩
  have e1 : (k : Int) / 32 = (q : Int) := by omega
  have e2 : (k : Int) % 32 = (r : Int) := by omega
  have hr1 : r < 32 := by omega
  have hq1 : q ≤ 31250 := by omega
  have hx0 := limb_lt h.1 q
  have hbd := bit_digit h.1 q r hr1
  rw [show 32 * q + r = k by omega] at hbd
  obtain ⟨x, hx⟩ : ∃ x, x = xs.getD q 0 := ⟨_, rfl⟩
  rw [← hx] at hx0 hbd
  obtain ⟨D, hD⟩ : ∃ D, D = x / 2 ^ r := ⟨_, rfl⟩
  have eD : (x : Int) / 2 ^ r = (D : Int) := by rw [hD]; simp
  have hD1 : D < 4294967296 := by rw [hD]; exact Nat.lt_of_le_of_lt (Nat.div_le_self _ _) hx0
  have HF : Hid (val xs / 2 ^ k % 2 = D % 2) := by show _ = _; rw [← hbd, hD]
  have HX : Hid (x = xs.getD q 0) := hx
  clear hq hr hx hD hbd
  go_enter Try.func33, Try.ntmps33
  go_wp2_with fail
  refine (limb_ref _ _ _ _ h (by omega)).mono ?_
  rintro e w2 ⟨rfl, rfl⟩
  rw [Int.toNat_natCast, ← HX.out]
  clear h
  go_wp2
  go_ret
  exact ⟨by rw [HF.out]; rfl, rfl⟩
end Go.Proofs.Ytnlajeinegampaa

namespace Go.Proofs.Ytnlajeinegampaa
open Go.RowKit

theorem bl_lt (v : Nat) : v < 2 ^ bl v := by
  by_cases h : v = 0
  · subst h; decide
  · obtain ⟨m, e, _, h2⟩ := bl_bounds h
    rw [e]; exact h2
theorem shl_zero {v : Nat} {n : Int} (h : (bl v : Int) + n ≤ 0) : shl v n = 0 := by
  have hv := bl_lt v
  unfold shl
  by_cases h0 : 0 ≤ n
  · have hb : bl v = 0 := by omega
    rw [hb] at hv
    have : v = 0 := by simpa using hv
    rw [if_pos h0, this, Nat.zero_mul]
  · rw [if_neg h0]
    exact Nat.div_eq_of_lt (Nat.lt_of_lt_of_le hv (Nat.pow_le_pow_right (by decide) (by omega)))
theorem shl_lt {v : Nat} {n : Int} {s : Nat} (h : (bl v : Int) + n = (s : Int)) : shl v n < 2 ^ s := by
  have hv := bl_lt v
  unfold shl
  by_cases h0 : 0 ≤ n
  · rw [if_pos h0, show s = bl v + n.toNat by omega, Nat.pow_add]
    exact Nat.mul_lt_mul_of_pos_right hv (Nat.two_pow_pos _)
  · rw [if_neg h0]
    apply Nat.div_lt_of_lt_mul
    rw [← Nat.pow_add, show (-n).toNat + s = bl v by omega]
    exact hv

end Go.Proofs.Ytnlajeinegampaa

namespace Go.Proofs.Ytnlajeinegampaa

/-- Limbs whose highest one is none of 0. -/
theorem lim_of_ge {zs : List Nat} (h : limbs zs) {n : Nat} (hn : zs.length = n + 1) (hv : 4294967296 ^ n ≤ val zs) : lim (val zs) = zs := by
  apply lim_of_last h
  intro hne
  have e := low_succ zs n
  rw [low_all (by omega)] at e
  have hl := low_lt h n
  have : zs.getD n 0 ≠ 0 := by intro h0; rw [h0, Nat.mul_zero] at e; omega
  rw [List.getLast_eq_getElem]
  rw [List.getD_eq_getElem?_getD, List.getElem?_eq_getElem (by omega)] at this
  simpa [hn] using this
theorem lim_snoc {zs : List Nat} (h : limbs zs) {d : Nat} (hd : d < 4294967296) (h0 : d ≠ 0) : lim (val zs + 4294967296 ^ zs.length * d) = zs ++ [d] := by
  rw [← val_snoc]
  exact lim_of_last (limbs_snoc h hd) fun _ => by simpa using h0
theorem lim_ge {v n : Nat} (h : (lim v).length = n + 1) : 4294967296 ^ n ≤ v := by
  rcases Nat.lt_or_ge v (4294967296 ^ n) with h1 | h1
  · have := lim_len_le h1; omega
  · exact h1
end Go.Proofs.Ytnlajeinegampaa
