/-
  Proved here: a limb is put behind a row of the call's own; small facts on such rows.
  Proved here: what Shift answers, and what the plain way's Bit answers.
  Proved here: how many bits a number has, by either way.
-/
import Derived.Test.YtaafijifiiiblaaGreatSmallAll
import Derived.Test.YtaafijifiiiblaaGreatCmpAll
import Derived.Test.YtaafijifiiiblaaGreatLiftAll
import Derived.Lib.BitFns
namespace Go.Proofs.YtaafijifiiiblaaGreat
open Go.RowKit

theorem lim_short {w : World} {v : Value} {xs : List Nat} (h : Num w v xs) : (lim (val xs)).length ≤ xs.length := by
  have h1 := lim_len_le (val_lt h.1)
  exact h1
theorem val_snoc (zs : List Nat) (d : Nat) : val (zs ++ [d]) = val zs + 4294967296 ^ zs.length * d := by
  rw [val_append]; simp [val]
theorem limbs_snoc {zs : List Nat} (h : limbs zs) {d : Nat} (hd : d < 4294967296) : limbs (zs ++ [d]) := fun x hx => by
  rcases List.mem_append.1 hx with h1 | h1
  · exact h x h1
  · simp at h1; omega
theorem push_own {B : Nat} {w w' wr : World} {v v' : Value} {zs : List Nat} {d : Nat} {o : Obj} (hv : Own B 100 wr v zs) (hbel : Below B w wr) (hB : B ≤ wr.heap.size) (hd : d < 4294967296)
    (ho : w'.ownsRow B 100 1 v' (zs.length + 1) (zs.map U ++ [U d])) (hg : (wr.alloc o).grownBy w' v.ownBlock) :
    Own B 100 w' v' (zs ++ [d]) ∧ Below B w w' ∧ B ≤ w'.heap.size := by
  have hsz : (wr.alloc o).heap.size = wr.heap.size + 1 := by simp
  have hbel2 : Below B (wr.alloc o) w' := below_of_grown hg (by omega) (fun g e => (hv.block g e).1)
  refine ⟨⟨limbs_snoc hv.1 hd, ?_⟩, (hbel.alloc hB o).trans hbel2, by have := hbel2.size; omega⟩
  rw [List.length_append, List.map_append]
  exact ho
theorem Own.sl {B e : Nat} {w : World} {v : Value} {xs : List Nat} (h : Own B e w v xs) : ∃ ao k cap, v = .slice ao k cap := by
  obtain ⟨ao, cap, h, _⟩ := h.ao
  exact ⟨ao, _, cap, h⟩
end Go.Proofs.YtaafijifiiiblaaGreat

namespace Go.Proofs.YtaafijifiiiblaaGreat
open Go.RowKit

end Go.Proofs.YtaafijifiiiblaaGreat

namespace Go.Proofs.YtaafijifiiiblaaGreat
open Go.RowKit

/-- How many bits a number has. -/
def bl (n : Nat) : Nat := if n = 0 then 0 else n.log2 + 1
theorem bl_zero : bl 0 = 0 := rfl
theorem bl_unique {n m : Nat} (h1 : 2 ^ m ≤ n) (h2 : n < 2 ^ (m + 1)) : bl n = m + 1 := by
  have h0 : n ≠ 0 := by have := Nat.two_pow_pos m; omega
  have a := (Nat.le_log2 h0).2 h1
  have b := (Nat.log2_lt h0).2 h2
  unfold bl
  rw [if_neg h0]
  omega
theorem bl_bounds {n : Nat} (h : n ≠ 0) : ∃ m, bl n = m + 1 ∧ 2 ^ m ≤ n ∧ n < 2 ^ (m + 1) :=
  ⟨n.log2, by unfold bl; rw [if_neg h], (Nat.le_log2 h).1 (Nat.le_refl _), (Nat.log2_lt h).1 (Nat.lt_succ_self _)⟩
theorem bl_half {t : Nat} (h : t ≠ 0) : bl t = 1 + bl (t / 2) := by
  by_cases h1 : t = 1
  · subst h1; decide
  · obtain ⟨m, e, h2, h3⟩ := bl_bounds (n := t / 2) (by omega)
    rw [e, bl_unique (m := m + 1)]
    · omega
    · rw [Nat.pow_succ]; omega
    · rw [Nat.pow_succ]; omega
theorem pow_limb (k : Nat) : 4294967296 ^ k = 2 ^ (32 * k) := by rw [Nat.pow_mul]
theorem bl_top {r k t : Nat} (hr : r < 4294967296 ^ k) (ht : t ≠ 0) : bl (r + 4294967296 ^ k * t) = 32 * k + bl t := by
  obtain ⟨m, e, h2, h3⟩ := bl_bounds ht
  rw [e]
  refine bl_unique (m := 32 * k + m) ?_ ?_
  · rw [Nat.pow_add, ← pow_limb]
    have := Nat.mul_le_mul_left (4294967296 ^ k) h2
    omega
  · rw [show 32 * k + m + 1 = 32 * k + (m + 1) by omega, Nat.pow_add, ← pow_limb]
    have h4 : t + 1 ≤ 2 ^ (m + 1) := h3
    have := Nat.mul_le_mul_left (4294967296 ^ k) h4
    rw [Nat.mul_add, Nat.mul_one] at this
    omega
theorem bl_bitLen : ∀ (x : Nat), x < 18446744073709551616 → Lib.bitLen x = bl x := by
  intro x
  induction x using Nat.strongRecOn with
  | ind x ih =>
    intro hx
    by_cases h0 : x = 0
    · subst h0; rfl
    · rw [Lib.bitLen_half x h0 hx, ih (x / 2) (by omega) (by omega), bl_half h0]
theorem bl_le32 {x : Nat} (h : x < 4294967296) : bl x ≤ 32 := by
  rw [← bl_bitLen x (by omega)]
  exact Lib.bitLen_le x 32 (by omega) h
theorem lim_last {n : Nat} (h : n ≠ 0) : ∃ k t, (lim n).length = k + 1 ∧ (lim n).getD k 0 = t ∧ t ≠ 0 ∧ t < 4294967296 ∧ bl n = 32 * k + bl t := by
  have hne : lim n ≠ [] := by rw [lim_pos h]; simp
  obtain ⟨k, hk⟩ : ∃ k, (lim n).length = k + 1 := ⟨(lim n).length - 1, by have := List.length_pos_iff.2 hne; omega⟩
  have hs := low_succ (lim n) k
  rw [low_all (by omega), val_lim] at hs
  have hlo := low_lt (limbs_lim n) k
  have ht : (lim n).getD k 0 ≠ 0 := by
    intro h0
    rw [h0, Nat.mul_zero, Nat.add_zero] at hs
    have := lim_len_le (k := k) (n := n) (by omega)
    omega
  refine ⟨k, _, hk, rfl, ht, limb_lt (limbs_lim n) k, ?_⟩
  conv => lhs; rw [hs]
  exact bl_top hlo ht

set_option maxHeartbeats 4000000 in
set_option maxRecDepth 100000 in
theorem len32_any (x : Int) (w : World) (h0 : 0 ≤ x) (h1 : x ≤ 4294967295) :
    Calls Tryz.prog 142 #[.int .u32 x] w fun e w' => e = .returned (.int .i64 (bl x.toNat : Nat)) ∧ w' = w := by
  rw [← bl_bitLen x.toNat (by omega)]
  by_cases c1 : x < 256
  · have i0 : 0 ≤ x := by omega
    have i1 : x ≤ 255 := by omega
    have c2 : x < 65536 := by omega
    have hl := Lib.len8_of x i0 i1
    have hb := Lib.bitLen_le8' x i0 i1
    go_enter Tryz.func142, Tryz.ntmps142
    go_wp2
    go_ret
    refine ⟨congrArg Ending.returned (congrArg (Value.int IntKind.i64) ?_), rfl⟩
    rfl
  · by_cases c2 : x < 65536
    · have i0 : 0 ≤ x / 256 := by omega
      have i1 : x / 256 ≤ 255 := by omega
      have hl := Lib.len8_of (x / 256) i0 i1
      have hb := Lib.bitLen_le8' (x / 256) i0 i1
      have HE : Hid ((Lib.bitLen x.toNat : Int) = 8 + (Lib.bitLen (x / 256).toNat : Int)) := by
        show _ = _
        rw [Lib.bitLen_shift8 x.toNat (by omega) (by omega), show (x / 256).toNat = x.toNat / 256 by omega]
        omega
      obtain ⟨r, hr⟩ : ∃ r, r = Lib.bitLen (x / 256).toNat := ⟨_, rfl⟩
      rw [← hr] at hl hb
      have HR : Hid (r = Lib.bitLen (x / 256).toNat) := hr
      clear hr
      go_enter Tryz.func142, Tryz.ntmps142
      go_wp2
      go_ret
      refine ⟨congrArg Ending.returned (congrArg (Value.int IntKind.i64) ?_), rfl⟩
      rw [HE.out, ← HR.out]
    · by_cases c3 : x / 65536 < 256
      · have i0 : 0 ≤ x / 65536 := by omega
        have i1 : x / 65536 ≤ 255 := by omega
        have hl := Lib.len8_of (x / 65536) i0 i1
        have hb := Lib.bitLen_le8' (x / 65536) i0 i1
        have HE : Hid ((Lib.bitLen x.toNat : Int) = 16 + (Lib.bitLen (x / 65536).toNat : Int)) := by
          show _ = _
          rw [Lib.bitLen_shift16 x.toNat (by omega) (by omega), show (x / 65536).toNat = x.toNat / 65536 by omega]
          omega
        obtain ⟨r, hr⟩ : ∃ r, r = Lib.bitLen (x / 65536).toNat := ⟨_, rfl⟩
        rw [← hr] at hl hb
        have HR : Hid (r = Lib.bitLen (x / 65536).toNat) := hr
        clear hr
        go_enter Tryz.func142, Tryz.ntmps142
        go_wp2
        go_ret
        refine ⟨congrArg Ending.returned (congrArg (Value.int IntKind.i64) ?_), rfl⟩
        rw [HE.out, ← HR.out]
      · have i0 : 0 ≤ x / 65536 / 256 := by omega
        have i1 : x / 65536 / 256 ≤ 255 := by omega
        have hl := Lib.len8_of (x / 65536 / 256) i0 i1
        have hb := Lib.bitLen_le8' (x / 65536 / 256) i0 i1
        have HE : Hid ((Lib.bitLen x.toNat : Int) = 24 + (Lib.bitLen (x / 65536 / 256).toNat : Int)) := by
          show _ = _
          rw [Lib.bitLen_shift24 x.toNat (by omega) (by omega), show (x / 65536 / 256).toNat = x.toNat / 16777216 by omega]
          omega
        obtain ⟨r, hr⟩ : ∃ r, r = Lib.bitLen (x / 65536 / 256).toNat := ⟨_, rfl⟩
        rw [← hr] at hl hb
        have HR : Hid (r = Lib.bitLen (x / 65536 / 256).toNat) := hr
        clear hr
        go_enter Tryz.func142, Tryz.ntmps142
        go_wp2
        go_ret
        refine ⟨congrArg Ending.returned (congrArg (Value.int IntKind.i64) ?_), rfl⟩
        rw [HE.out, ← HR.out]

set_option maxRecDepth 100000 in
set_option maxHeartbeats 800000 in
theorem bits_any (v : Value) (xs : List Nat) (w : World) (h : Num w v xs) (hlen : xs.length ≤ 1099511627776) :
    Calls Tryz.prog 119 #[v] w fun e w' => e = .returned (.int .i64 (bl (val xs) : Nat)) ∧ w' = w := by
  obtain ⟨ao, cap, rfl, hl1, hm1⟩ := h.ao
  go_enter Tryz.func119, Tryz.ntmps119
  go_wp2_with fail
  refine (trim_any _ _ _ h).mono ?_
  rintro e w1 ⟨⟨k, hk, hk2, rfl⟩, rfl⟩
  simp only [cutTo]
  have hkl : k = (lim (val xs)).length := by rw [← hk2, List.length_take, Nat.min_eq_left hk]
  have nu := h.cut hk
  rw [hk2] at nu
  simp only [cutTo] at nu
  have hle1 : k ≤ 1099511627776 := by omega
  clear h hk2
  by_cases h0 : val xs = 0
  · rw [h0, lim_zero] at hkl
    have hk0 : ((k : Int) == 0) = true := by simp [hkl]
    have HB : Hid (bl (val xs) = 0) := by show _ = _; rw [h0]; rfl
    clear hkl nu h0
    go_wp2
    go_ret
    exact ⟨by rw [HB.out]; rfl, rfl⟩
  · obtain ⟨m, t, e1, e2, ht, ht2, e3⟩ := lim_last h0
    have hkm : k = m + 1 := by omega
    have hk0 : ((k : Int) == 0) = false := by simp; omega
    obtain ⟨_, aox, capx, ex, _, _, _, cx⟩ := nu.open_
    simp only [Value.slice.injEq] at ex
    obtain ⟨rfl, hq1, rfl⟩ := ex
    obtain ⟨b, off, rfl, hc0⟩ := cx m (by omega)
    rw [e2] at hc0
    have HB : Hid (bl (val xs) = 32 * m + bl t) := e3
    have hb32 := bl_le32 ht2
    have HKM : Hid (k = m + 1) := hkm
    subst hkm
    clear e1 e2 e3 hkl hq1 cx nu h0
    go_wp2_with fail
    refine (len32_any _ _ (by omega) (by omega)).mono ?_
    rintro e w2 ⟨rfl, rfl⟩
    rw [Int.toNat_natCast]
    obtain ⟨bt, hbt⟩ : ∃ bt, bt = bl t := ⟨_, rfl⟩
    rw [← hbt] at hb32 ⊢
    have HBT : Hid (bt = bl t) := hbt
    clear hbt
    go_wp2
    go_ret
    refine ⟨congrArg Ending.returned (congrArg (Value.int IntKind.i64) ?_), rfl⟩
    rw [HB.out, ← HBT.out]
    omega

end Go.Proofs.YtaafijifiiiblaaGreat
