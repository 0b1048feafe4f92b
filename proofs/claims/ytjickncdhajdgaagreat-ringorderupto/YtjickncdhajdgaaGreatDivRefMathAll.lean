/-
  Proved here: what the plain way's Sub (of a smaller number), Add and Mul answer.
  Proved here: plain mathematics for the plain way's division (bit by bit) and common divisor (halves and differences).
-/
import Derived.Test.YtjickncdhajdgaaGreatRefB
import Derived.Test.YtjickncdhajdgaaGreatMul
import Derived.Test.YtjickncdhajdgaaGreatLiftAll
namespace Go.Proofs.YtjickncdhajdgaaGreat
open Go.RowKit

set_option maxRecDepth 100000 in
theorem sub_ref_no (u v : Value) (xs ys : List Nat) (w : World) (hu : Num w u xs) (hv : Num w v ys) (hbx : xs.length ≤ 1099511627776) (hby : ys.length ≤ 1099511627776) (hle : val xs < val ys) :
    Calls Tryz.prog 73 #[u, v] w fun e w' => e = .returned (.tuple #[.slice none 0 0, .bool false]) ∧ w' = w := by
  obtain ⟨ao, cap, rfl, hl1, hm1⟩ := hu.ao
  obtain ⟨bo, dap, rfl, hl2, hm2⟩ := hv.ao
  go_enter Tryz.func73, Tryz.ntmps73
  go_wp2_with fail
  refine (cmp_ref _ _ _ _ _ hu hv hbx hby).mono ?_
  rintro e w1 ⟨rfl, rfl⟩
  rw [cmpN_lt hle]
  clear hu hv
  go_wp2
  go_ret2
  exact ⟨rfl, rfl⟩

theorem add_end {xs ys zs : List Nat} {i : Nat} (hi : xs.length ≤ i) (hj : ys.length ≤ i) (h : val zs + 4294967296 ^ i * 0 = low xs i + low ys i) : val zs = val xs + val ys := by
  rw [low_all hi, low_all hj] at h; omega

set_option maxRecDepth 100000 in
set_option maxHeartbeats 3200000 in
theorem add_ref (u v : Value) (xs ys : List Nat) (w : World) (hu : Num w u xs) (hv : Num w v ys) (hbx : xs.length ≤ 1099511627775) (hby : ys.length ≤ 1099511627775) :
    Calls Tryz.prog 48 #[u, v] w fun e w' => Made' w.heap.size w (lim (val xs + val ys)) e w' := by
  obtain ⟨ao, cap, rfl, hl1, hm1⟩ := hu.ao
  obtain ⟨bo, dap, rfl, hl2, hm2⟩ := hv.ao
  obtain ⟨iU, hiU, hzU0, hzU1, hzU2⟩ := info_parts Tryz.infoU
  obtain ⟨k, hk⟩ : ∃ k, k = xs.length := ⟨_, rfl⟩
  obtain ⟨m, hm⟩ : ∃ m, m = ys.length := ⟨_, rfl⟩
  rw [← hk] at hu hl1 hbx ⊢
  rw [← hm] at hv hl2 hby ⊢
  have HK : Hid (k = xs.length) := hk
  have HM : Hid (m = ys.length) := hm
  clear hk hm
  go_enter Tryz.func48, Tryz.ntmps48
  go_wp2
  go_loopw [5, 6, 7] (fun o cv t wr => ∃ (i c : Nat) (zs : List Nat), i ≤ max k m + 1 ∧ t = .int .i64 i ∧ cv = .int .u64 c ∧ c ≤ 1 ∧ (max k m < i → c = 0) ∧ zs.length = i ∧ Own w.heap.size 95 wr o zs ∧ Below w.heap.size w wr ∧ w.heap.size ≤ wr.heap.size ∧ val zs + 4294967296 ^ i * c = low xs i + low ys i) (fun _ _ t _ => max k m + 1 - (intOf t).toNat)
  case atStart => exact ⟨0, 0, [], Nat.zero_le _, rfl, rfl, by omega, fun _ => rfl, rfl, Own.of_nil _ _ _, Below.refl _ _, Nat.le_refl _, by simp [low_zero, val]⟩
  case round =>
    obtain ⟨i, c, zs, hin, rfl, rfl, hc1, hci, hzl, how, hbel, hB, hinv⟩ := hrel
    have HZ : Hid (zs.length = i) := hzl
    have HI : Hid (val zs + 4294967296 ^ i * c = low xs i + low ys i) := hinv
    clear hzl hinv
    have nu2 := hu.below (Nat.le_refl _) hbel
    have nv2 := hv.below (Nat.le_refl _) hbel
    have him : i ≤ 1099511627777 := by omega
    by_cases hgo : i < k ∨ i < m ∨ 0 < c
    · have him2 : i ≤ max k m := by
        rcases hgo with h | h | h
        · omega
        · omega
        · rcases Nat.lt_or_ge (max k m) i with h2 | h2
          · have := hci h2; omega
          · exact h2
      have HIM : Hid (i ≤ max k m) := him2
      have hx0 := limb_lt hu.1 i
      have hy0 := limb_lt hv.1 i
      obtain ⟨x, hx⟩ : ∃ x, x = xs.getD i 0 := ⟨_, rfl⟩
      obtain ⟨y, hy⟩ : ∃ y, y = ys.getD i 0 := ⟨_, rfl⟩
      have HX : Hid (x = xs.getD i 0) := hx
      have HY : Hid (y = ys.getD i 0) := hy
      rw [← hx] at hx0
      rw [← hy] at hy0
      have HC : Hid (max k m < i + 1 → (c + x + y) / 4294967296 = 0) := by
        intro h
        have h1 : x = 0 := by rw [hx]; exact getD_ge (by have := HK.out; omega)
        have h2 : y = 0 := by rw [hy]; exact getD_ge (by have := HM.out; omega)
        omega
      have three : (i < k) ∨ (¬ i < k ∧ i < m) ∨ (¬ i < k ∧ ¬ i < m ∧ 0 < c) := by omega
      clear hx hy hci him2 hgo
      have HO : Hid (wr.ownsRow w.heap.size 95 1 u5 i (zs.map U)) := by show _; rw [← HZ.out]; exact how.2
      have HU : Hid (U ((c + x + y) % 4294967296) = .int .u32 (((c : Int) + (x : Int) + (y : Int)) % 4294967296)) := by show _ = _; simp [U]
      have hB3 : w.heap.size ≤ (wr.alloc (.cells #[.int .u32 (((c : Int) + (x : Int) + (y : Int)) % 4294967296)] 95)).heap.size := by simp; omega
      rcases three with h1 | ⟨h1, h2⟩ | ⟨h1, h2, h3⟩
      all_goals
        first | have d1 := decide_eq_true h1 | have d1 := decide_eq_false h1
        try (first | have d2 := decide_eq_true h2 | have d2 := decide_eq_false h2)
        try have d3 : (0 : Int) < (c : Int) := Int.natCast_pos.2 h3
        go_wp2_with fail
        refine (limb_ref _ _ _ _ nu2 (by omega)).mono ?_
        rintro e w3 ⟨rfl, rfl⟩
        rw [Int.toNat_natCast, ← HX.out]
        go_wp2_with fail
        refine (limb_ref _ _ _ _ nv2 (by omega)).mono ?_
        rintro e w4 ⟨rfl, rfl⟩
        rw [Int.toNat_natCast, ← HY.out]
        clear nu2 nv2
        go_wp2_with (at_builtin; refine wpList_push _ rfl _ _ 33 rfl w.heap.size 95 iU (.int .u32 0) 4 Tryz.underlying33 hiU hzU0 hzU1 hzU2 rfl _ i (zs.map U) rfl (HO.out.alloc _) ⟨w4.heap.size, 0, none⟩ 1 1 [.int .u32 (((c : Int) + (x : Int) + (y : Int)) % 4294967296)] rfl rfl (cell_one_new _ _ _) (fun u hu => by simp at hu; subst hu; rfl) (by decide) (by unfold maxLen; omega) (by omega) hB3 ?_)
        intro v' w5 ho hgr _ _
        have R := push_own (d := (c + x + y) % 4294967296) how hbel hB (by omega) (by rw [HZ.out, HU.out]; exact ho) hgr
        clear ho hgr how hbel hB HO hB3
        go_wp2
        go_roundw
        case rel => exact ⟨i + 1, (c + x + y) / 4294967296, _, by have := HIM.out; omega, by go_num, by go_num, by omega, HC.out, by rw [List.length_append, HZ.out]; rfl, R.1, R.2.1, R.2.2, by rw [HX.out, HY.out]; exact add_push HZ.out HI.out⟩
        case measure => have := HIM.out; simp [intOf]; omega
    · have h1 : ¬ i < k := fun h => hgo (Or.inl h)
      have h2 : ¬ i < m := fun h => hgo (Or.inr (Or.inl h))
      have h3 : c = 0 := by omega
      subst h3
      have d1 := decide_eq_false h1
      have d2 := decide_eq_false h2
      have HF : Hid (val zs = val xs + val ys) := add_end (by rw [← HK.out]; omega) (by rw [← HM.out]; omega) HI.out
      have hzl2 : zs.length ≤ 1099511627776 := by rw [HZ.out]; omega
      clear hgo hci nu2 nv2
      go_wp2_with fail
      refine (norm_ref _ _ _ how.num (by omega)).mono ?_
      rintro e w3 ⟨v3, rfl, ho3, hb3⟩
      rw [HF.out] at ho3
      have ho4 := ho3.mono hB
      have hb4 := hbel.trans (hb3.mono hB)
      clear how ho3 hb3 hbel
      go_wp2
      go_ret
      exact ⟨_, rfl, ho4, hb4⟩
end Go.Proofs.YtjickncdhajdgaaGreat

namespace Go.Proofs.YtjickncdhajdgaaGreat

theorem bit_split (A j : Nat) : A / 2 ^ j = 2 * (A / 2 ^ (j + 1)) + A / 2 ^ j % 2 := by
  rw [Nat.pow_succ, ← Nat.div_div_eq_div_mul]
  omega

theorem div_two_yes {X Y t R : Nat} (hR : 2 * (X % Y) + t = R) (ht : t ≤ 1) (hle : Y ≤ R) (hY : 0 < Y) :
    (2 * X + t) / Y = 2 * (X / Y) + 1 ∧ (2 * X + t) % Y = R - Y := by
  have h1 := Nat.div_add_mod X Y
  have h2 := Nat.mod_lt X hY
  have e : 2 * X + t = (R - Y) + Y * (2 * (X / Y) + 1) := by
    rw [Nat.mul_add, Nat.mul_left_comm Y 2]
    generalize Y * (X / Y) = Q at *
    omega
  have hlt : R - Y < Y := by omega
  rw [e]
  exact ⟨by rw [Nat.add_mul_div_left _ _ hY, Nat.div_eq_of_lt hlt]; omega, by rw [Nat.add_mul_mod_self_left, Nat.mod_eq_of_lt hlt]⟩

theorem div_two_no {X Y t R : Nat} (hR : 2 * (X % Y) + t = R) (hlt : R < Y) (hY : 0 < Y) :
    (2 * X + t) / Y = 2 * (X / Y) ∧ (2 * X + t) % Y = R := by
  have h1 := Nat.div_add_mod X Y
  have e : 2 * X + t = R + Y * (2 * (X / Y)) := by
    rw [Nat.mul_left_comm Y 2]
    generalize Y * (X / Y) = Q at *
    omega
  rw [e]
  exact ⟨by rw [Nat.add_mul_div_left _ _ hY, Nat.div_eq_of_lt hlt]; omega, by rw [Nat.add_mul_mod_self_left, Nat.mod_eq_of_lt hlt]⟩

/-- A limb of a number of which no bit below i + 1 is set has room for bit i. -/
theorem limb_room {zs : List Nat} (hz : limbs zs) {K j q r : Nat} (h : val zs = K * 2 ^ (j + 1)) (hp : 2 ^ j = 4294967296 ^ q * 2 ^ r) (hr : r ≤ 31) : zs.getD q 0 + 2 ^ r < 4294967296 := by
  have hd := limb_digit hz q
  have h1 : val zs / 4294967296 ^ q = K * 2 ^ (r + 1) := by
    rw [h, Nat.pow_succ, hp, Nat.mul_comm K, Nat.mul_assoc, Nat.mul_assoc, Nat.mul_div_cancel_left _ (Nat.pow_pos (by decide)), Nat.pow_succ, ← Nat.mul_assoc, Nat.mul_comm]
  have h2 : (4294967296 : Nat) = 2 ^ (r + 1) * 2 ^ (31 - r) := by rw [← Nat.pow_add, show r + 1 + (31 - r) = 32 by omega]
  rw [h1] at hd
  have h3 : K * 2 ^ (r + 1) % 4294967296 = 2 ^ (r + 1) * (K % 2 ^ (31 - r)) := by
    rw [h2, Nat.mul_comm K, Nat.mul_mod_mul_left]
  rw [h3] at hd
  have h4 : K % 2 ^ (31 - r) + 1 ≤ 2 ^ (31 - r) := Nat.mod_lt _ (Nat.two_pow_pos _)
  have h5 : 2 ^ (r + 1) * (K % 2 ^ (31 - r) + 1) ≤ 4294967296 := by
    calc 2 ^ (r + 1) * (K % 2 ^ (31 - r) + 1) ≤ 2 ^ (r + 1) * 2 ^ (31 - r) := Nat.mul_le_mul_left _ h4
      _ = 4294967296 := h2.symm
  rw [Nat.mul_add, Nat.mul_one, ← hd, Nat.pow_succ] at h5
  have := Nat.two_pow_pos r
  omega

theorem pull_bit {zs : List Nat} {K j q r : Nat} (hq : q < zs.length) (h : val zs = K * 2 ^ (j + 1)) (hp : 2 ^ j = 4294967296 ^ q * 2 ^ r) : val (zs.set q (zs.getD q 0 + 2 ^ r)) = (2 * K + 1) * 2 ^ j := by
  rw [val_set_add _ _ _ hq, h, ← hp, Nat.add_mul, Nat.one_mul, Nat.pow_succ, Nat.mul_comm 2 K, Nat.mul_assoc, Nat.mul_comm 2]

theorem gcd_half_left {x y G : Nat} (h : Nat.gcd x y = G) (hG : G % 2 = 1) (hx : x % 2 = 0) : Nat.gcd (x / 2) y = G := by
  obtain ⟨k, rfl⟩ : ∃ k, x = 2 * k := ⟨x / 2, by omega⟩
  rw [Nat.mul_div_cancel_left _ (by decide)]
  have hc : Nat.Coprime G 2 := by
    have : Nat.gcd G 2 = Nat.gcd 2 G := Nat.gcd_comm _ _
    unfold Nat.Coprime
    rw [this, Nat.gcd_rec, hG]; rfl
  apply Nat.dvd_antisymm
  · rw [← h]
    exact Nat.dvd_gcd (Nat.dvd_trans (Nat.gcd_dvd_left k y) (Nat.dvd_mul_left _ _)) (Nat.gcd_dvd_right k y)
  · refine Nat.dvd_gcd (hc.dvd_of_dvd_mul_left ?_) ?_
    · rw [← h]; exact Nat.gcd_dvd_left _ _
    · rw [← h]; exact Nat.gcd_dvd_right _ _

theorem gcd_half_right {x y G : Nat} (h : Nat.gcd x y = G) (hG : G % 2 = 1) (hy : y % 2 = 0) : Nat.gcd x (y / 2) = G := by
  rw [Nat.gcd_comm] at h ⊢
  exact gcd_half_left h hG hy

theorem gcd_halves {x y : Nat} (hx : x % 2 = 0) (hy : y % 2 = 0) : Nat.gcd x y = 2 * Nat.gcd (x / 2) (y / 2) := by
  obtain ⟨k, rfl⟩ : ∃ k, x = 2 * k := ⟨x / 2, by omega⟩
  obtain ⟨l, rfl⟩ : ∃ k, y = 2 * k := ⟨y / 2, by omega⟩
  rw [Nat.mul_div_cancel_left _ (by decide), Nat.mul_div_cancel_left _ (by decide), Nat.gcd_mul_left]

theorem gcd_odd {x y : Nat} (h : ¬ (x % 2 = 0 ∧ y % 2 = 0)) : Nat.gcd x y % 2 = 1 := by
  rcases Nat.mod_two_eq_zero_or_one (Nat.gcd x y) with h0 | h0
  · exfalso
    apply h
    have hd : 2 ∣ Nat.gcd x y := Nat.dvd_of_mod_eq_zero h0
    exact ⟨Nat.mod_eq_zero_of_dvd (Nat.dvd_trans hd (Nat.gcd_dvd_left x y)), Nat.mod_eq_zero_of_dvd (Nat.dvd_trans hd (Nat.gcd_dvd_right x y))⟩
  · exact h0

theorem gcd_less {x y : Nat} (h : x ≤ y) : Nat.gcd x (y - x) = Nat.gcd x y := Nat.gcd_sub_self_right h
end Go.Proofs.YtjickncdhajdgaaGreat
