/-
  Proved here: what the document's power of 2 answers.
  Proved here: what the plain way's double answers.
  Proved here: plain mathematics for the plain way's division (bit by bit) and common divisor (halves and differences).
-/
import Derived.Test.YtaekaikkldnikaaNearRAll
import Derived.Test.YtaekaikkldnikaaDecMathAll
import Derived.Test.YtaekaikkldnikaaShiftMathAll
namespace Go.Proofs.Ytaekaikkldnikaa
open Go.RowKit

set_option maxRecDepth 100000 in
set_option maxHeartbeats 1600000 in
theorem powerR (n : Nat) (w : World) (hn : n ≤ 262144) :
    Calls Try.prog 15 #[.int .i64 (n : Int)] w fun e w' => Made' w.heap.size w (lim (2 ^ n)) e w' := by
  obtain ⟨W1, hW1⟩ : ∃ W, W = w.alloc (.cells #[.int .u32 1] 39) := ⟨_, rfl⟩
  have n1 : Num W1 (.slice (some ⟨w.heap.size, 0, none⟩) 1 1) [1] := by rw [hW1]; exact (Own.lit (B := 0) 39 w #[.int .u32 1] [1] (by intro x hx; simp at hx; omega) (Nat.zero_le _) (by simp [maxLen]) (by simp [U])).num
  have b1 : Below w.heap.size w W1 := by rw [hW1]; exact belowA _ _
  have HW1 : Hid (w.alloc (.cells #[.int .u32 1] 39) = W1) := hW1.symm
  have hq := shift_ref _ [1] (n : Int) W1 n1 (by decide) (by omega) (by omega)
  rw [show shl (val [1]) (n : Int) = 2 ^ n by unfold shl; rw [if_pos (by omega), Int.toNat_natCast, show val [1] = 1 from rfl, Nat.one_mul]] at hq
  clear n1 hW1
  go_enter Try.func15, Try.ntmps15
  go_wp2_with fail
  rw [HW1.out]
  refine hq.mono ?_
  rintro e w2 ⟨v, rfl, ho, b2⟩
  obtain ⟨vo, vl, vc, rfl⟩ := ho.sl
  have HE : Hid (Made' w.heap.size w (lim (2 ^ n)) (.returned (.slice vo vl vc)) w2) := ⟨_, rfl, ho.mono b1.size, bstep b1 b2⟩
  clear hq ho b2 b1 HW1
  go_wp2
  go_ret
  exact HE.out
end Go.Proofs.Ytaekaikkldnikaa

namespace Go.Proofs.Ytaekaikkldnikaa
open Go.RowKit

theorem double_step {xs ys : List Nat} {k c d : Nat} (hk : ys.length = k) (h : val ys + 4294967296 ^ k * c = 2 * low xs k + d) :
    val (ys ++ [(c + 2 * xs.getD k 0) % 4294967296]) + 4294967296 ^ (k + 1) * ((c + 2 * xs.getD k 0) / 4294967296) = 2 * low xs (k + 1) + d := by
  rw [val_snoc, hk, low_succ xs k, Nat.pow_succ, Nat.add_assoc, carry_eq, Nat.mul_add, Nat.mul_add, Nat.mul_left_comm 2]
  omega
/-- What double leaves. -/
def DblEnd (w : World) (xs : List Nat) (d : Nat) (e : Ending) (w' : World) : Prop :=
  ∃ u zs, e = .returned u ∧ Own w.heap.size 39 w' u zs ∧ val zs = 2 * val xs + d ∧ zs.length ≤ xs.length + 1 ∧ (xs = lim (val xs) → zs = lim (2 * val xs + d)) ∧ Below w.heap.size w w'

set_option maxRecDepth 100000 in
set_option maxHeartbeats 3200000 in
theorem double_ref (u : Value) (xs : List Nat) (d : Nat) (w : World) (h : Num w u xs) (hlen : xs.length ≤ 1000000) (hd : d ≤ 1) :
    Calls Try.prog 40 #[u, .int .u32 (d : Int)] w fun e w' => DblEnd w xs d e w' := by
  obtain ⟨hbx, ao, cap, rfl, hca, hma, _, hcell⟩ := h.open_
  obtain ⟨iU, hiU, hzU0, hzU1, hzU2⟩ := info_parts Try.infoU
  obtain ⟨n, hn⟩ : ∃ n, n = xs.length := ⟨_, rfl⟩
  rw [← hn] at hlen hca ⊢
  have HN : Hid (n = xs.length) := hn
  clear hn h
  go_enter Try.func40, Try.ntmps40
  go_wp2
  go_loopw [5, 6, 7] (fun yv cv kv wq => ∃ (k r : Nat) (ys : List Nat), k ≤ n ∧ kv = .int .i64 k ∧ cv = .int .u64 r ∧ r ≤ 1 ∧ ys.length = k ∧ Own w.heap.size 39 wq yv ys ∧ Below w.heap.size w wq ∧ val ys + 4294967296 ^ k * r = 2 * low xs k + d) (fun _ _ kv _ => n - (intOf kv).toNat)
  case atStart => exact ⟨0, d, [], Nat.zero_le _, rfl, rfl, hd, rfl, Own.of_nil _ _ _, Below.refl _ _, by simp [low_zero, val]⟩
  case round =>
    obtain ⟨k, r, ys, hk, rfl, rfl, hr1, hyl, hoy, hbq, hinv⟩ := hrel
    have HY : Hid (ys.length = k) := hyl
    have HI : Hid (val ys + 4294967296 ^ k * r = 2 * low xs k + d) := hinv
    have hB : w.heap.size ≤ wr.heap.size := hbq.size
    clear hyl hinv
    by_cases hkn : k < n
    · have hkn' : (k : Int) < (n : Int) := by omega
      obtain ⟨bb, bo, rfl, hx1⟩ := hcell k (by rw [← HN.out]; exact hkn)
      have cx : wr.cell? ⟨bb, bo + k, none⟩ = some (.int .u32 ((xs.getD k 0 : Nat) : Int)) := by rw [hbq.cell (p := ⟨bb, bo + k, none⟩) (block_lt_of_cell hx1)]; exact hx1
      have hx0 := limb_lt hbx k
      obtain ⟨x, hx⟩ : ∃ x, x = xs.getD k 0 := ⟨_, rfl⟩
      rw [← hx] at cx hx0
      obtain ⟨T, hT⟩ : ∃ T, T = r + 2 * x := ⟨_, rfl⟩
      have eT : (r : Int) + 2 * (x : Int) = (T : Int) := by omega
      have hTb : T ≤ 8589934591 := by omega
      obtain ⟨L, hL⟩ : ∃ L, L = T % 4294967296 := ⟨_, rfl⟩
      have eL : (T : Int) % 4294967296 = (L : Int) := by omega
      have hLb : L < 4294967296 := by omega
      obtain ⟨H, hH⟩ : ∃ H, H = T / 4294967296 := ⟨_, rfl⟩
      have eH : (T : Int) / 4294967296 = (H : Int) := by omega
      have hHb : H ≤ 1 := by omega
      have HT : Hid (L = (r + 2 * xs.getD k 0) % 4294967296 ∧ H = (r + 2 * xs.getD k 0) / 4294967296) := by rw [← hx, ← hT]; exact ⟨hL, hH⟩
      have HO : Hid (wr.ownsRow w.heap.size 39 1 u5 k (ys.map U)) := by show _; rw [← HY.out]; exact hoy.2
      clear hx hT hL hH hx1 hcell
      have hB3 : w.heap.size ≤ (wr.alloc (.cells #[.int .u32 (L : Int)] 39)).heap.size := by simp; omega
      go_wp2_with (at_builtin; refine wpList_push _ rfl _ _ 25 rfl w.heap.size 39 iU (.int .u32 0) 4 Try.underlying25 hiU hzU0 hzU1 hzU2 rfl _ k (ys.map U) rfl (HO.out.alloc _) ⟨wr.heap.size, 0, none⟩ 1 1 [.int .u32 (L : Int)] rfl rfl (cell_one_new _ _ _) (fun u hu => by simp at hu; subst hu; rfl) (by decide) (by unfold maxLen; omega) (by omega) hB3 ?_)
      intro v' w5 ho hgr _ _
      have R := push_own (d := L) hoy hbq hB hLb (by rw [HY.out, show U L = .int .u32 (L : Int) from rfl]; exact ho) hgr
      clear ho hgr hoy hbq hB HO hB3 cx
      go_wp2
      go_roundw
      case rel =>
        refine ⟨k + 1, H, ys ++ [L], by omega, by go_num, rfl, hHb, by rw [List.length_append, HY.out]; rfl, R.1, R.2.1, ?_⟩
        rw [HT.out.1, HT.out.2]
        exact double_step HY.out HI.out
      case measure => simp [intOf]; omega
    · have hkn' : ¬ (k : Int) < (n : Int) := by omega
      have hkn2 : k = n := by omega
      subst hkn2
      have hI := HI.out
      rw [low_all (xs := xs) (by rw [← HN.out]; exact Nat.le_refl _)] at hI
      clear hcell
      by_cases hr0 : r = 0
      · subst hr0
        have hr0' : ¬ (0 : Int) < ((0 : Nat) : Int) := by omega
        rw [Nat.mul_zero, Nat.add_zero] at hI
        have HE : Hid (DblEnd w xs d (.returned u5) wr) := by
          refine ⟨u5, ys, rfl, hoy, hI, by rw [HY.out, HN.out]; omega, fun hnorm => ?_, hbq⟩
          rw [← hI]
          rcases Nat.eq_zero_or_pos k with h0 | h0
          · have : ys = [] := List.eq_nil_of_length_eq_zero (by rw [HY.out, h0])
            rw [this]; rfl
          · obtain ⟨m, hm⟩ : ∃ m, k = m + 1 := ⟨k - 1, by omega⟩
            refine (lim_of_ge hoy.1 (by rw [HY.out, hm]) ?_).symm
            have h3 : 4294967296 ^ m ≤ val xs := lim_ge (by rw [← hnorm, ← HN.out, hm])
            omega
        clear hI hoy hbq
        go_wp2_with fail
        go_ret
        exact HE.out
      · have hr0' : (0 : Int) < (r : Int) := by omega
        have hr32 : r < 4294967296 := by omega
        have HO : Hid (wr.ownsRow w.heap.size 39 1 u5 k (ys.map U)) := by show _; rw [← HY.out]; exact hoy.2
        have hB3 : w.heap.size ≤ (wr.alloc (.cells #[.int .u32 (r : Int)] 39)).heap.size := by simp; omega
        have HI2 : Hid (val ys + 4294967296 ^ k * r = 2 * val xs + d) := hI
        clear hI
        go_wp2_with (at_builtin; refine wpList_push _ rfl _ _ 25 rfl w.heap.size 39 iU (.int .u32 0) 4 Try.underlying25 hiU hzU0 hzU1 hzU2 rfl _ k (ys.map U) rfl (HO.out.alloc _) ⟨wr.heap.size, 0, none⟩ 1 1 [.int .u32 (r : Int)] rfl rfl (cell_one_new _ _ _) (fun u hu => by simp at hu; subst hu; rfl) (by decide) (by unfold maxLen; omega) (by omega) hB3 ?_)
        intro v' w5 ho hgr _ _
        have R := push_own (d := r) hoy hbq hB hr32 (by rw [HY.out, show U r = .int .u32 (r : Int) from rfl]; exact ho) hgr
        have HE : Hid (DblEnd w xs d (.returned v') w5) := by
          refine ⟨v', ys ++ [r], rfl, R.1, by rw [val_snoc, HY.out]; exact HI2.out, by rw [List.length_append, HY.out, HN.out]; exact Nat.le_refl _, fun _ => ?_, R.2.1⟩
          rw [← HI2.out]
          have := lim_snoc hoy.1 hr32 hr0
          rw [HY.out] at this
          exact this.symm
        clear ho hgr hoy hbq hB HO hB3 R
        go_wp2_with fail
        go_ret
        exact HE.out
end Go.Proofs.Ytaekaikkldnikaa

namespace Go.Proofs.Ytaekaikkldnikaa

theorem bit_split (A j : Nat) : A / 2 ^ j = 2 * (A / 2 ^ (j + 1)) + A / 2 ^ j % 2 := by
  rw [Nat.pow_succ, ← Nat.div_div_eq_div_mul]
  omega

theorem div_two_yes {X Y t R : Nat} (hR : 2 * (X % Y) + t = R) (ht : t ≤ 1) (hle : Y ≤ R) (hY : 0 < Y) :
    (2 * X + t) / Y = 2 * (X / Y) + 1 ∧ (2 * X + t) % Y = R - Y := by
  have h1 := Nat.div_add_mod X Y
  have h2 := Nat.mod_lt X hY
  have e : 2 * X + t = (R - Y) + Y * (2 * (X / Y) + 1) := by
    rw [Nat.mul_add, Nat.mul_left_comm Y 2]
    generalize Y * (X / Y) = Q at *
    omega
  have hlt : R - Y < Y := by omega
  rw [e]
  exact ⟨by rw [Nat.add_mul_div_left _ _ hY, Nat.div_eq_of_lt hlt]; omega, by rw [Nat.add_mul_mod_self_left, Nat.mod_eq_of_lt hlt]⟩

theorem div_two_no {X Y t R : Nat} (hR : 2 * (X % Y) + t = R) (hlt : R < Y) (hY : 0 < Y) :
    (2 * X + t) / Y = 2 * (X / Y) ∧ (2 * X + t) % Y = R := by
  have h1 := Nat.div_add_mod X Y
  have e : 2 * X + t = R + Y * (2 * (X / Y)) := by
    rw [Nat.mul_left_comm Y 2]
    generalize Y * (X / Y) = Q at *
    omega
  rw [e]
  exact ⟨by rw [Nat.add_mul_div_left _ _ hY, Nat.div_eq_of_lt hlt]; omega, by rw [Nat.add_mul_mod_self_left, Nat.mod_eq_of_lt hlt]⟩

/-- A limb of a number of which no bit below i + 1 is set has room for bit i. -/
theorem limb_room {zs : List Nat} (hz : limbs zs) {K j q r : Nat} (h : val zs = K * 2 ^ (j + 1)) (hp : 2 ^ j = 4294967296 ^ q * 2 ^ r) (hr : r ≤ 31) : zs.getD q 0 + 2 ^ r < 4294967296 := by
  have hd := limb_digit hz q
  have h1 : val zs / 4294967296 ^ q = K * 2 ^ (r + 1) := by
    rw [h, Nat.pow_succ, hp, Nat.mul_comm K, Nat.mul_assoc, Nat.mul_assoc, Nat.mul_div_cancel_left _ (Nat.pow_pos (by decide)), Nat.pow_succ, ← Nat.mul_assoc, Nat.mul_comm]
  have h2 : (4294967296 : Nat) = 2 ^ (r + 1) * 2 ^ (31 - r) := by rw [← Nat.pow_add, show r + 1 + (31 - r) = 32 by omega]
  rw [h1] at hd
  have h3 : K * 2 ^ (r + 1) % 4294967296 = 2 ^ (r + 1) * (K % 2 ^ (31 - r)) := by
    rw [h2, Nat.mul_comm K, Nat.mul_mod_mul_left]
  rw [h3] at hd
  have h4 : K % 2 ^ (31 - r) + 1 ≤ 2 ^ (31 - r) := Nat.mod_lt _ (Nat.two_pow_pos _)
  have h5 : 2 ^ (r + 1) * (K % 2 ^ (31 - r) + 1) ≤ 4294967296 := by
    calc 2 ^ (r + 1) * (K % 2 ^ (31 - r) + 1) ≤ 2 ^ (r + 1) * 2 ^ (31 - r) := Nat.mul_le_mul_left _ h4
      _ = 4294967296 := h2.symm
  rw [Nat.mul_add, Nat.mul_one, ← hd, Nat.pow_succ] at h5
  have := Nat.two_pow_pos r
  omega

theorem pull_bit {zs : List Nat} {K j q r : Nat} (hq : q < zs.length) (h : val zs = K * 2 ^ (j + 1)) (hp : 2 ^ j = 4294967296 ^ q * 2 ^ r) : val (zs.set q (zs.getD q 0 + 2 ^ r)) = (2 * K + 1) * 2 ^ j := by
  rw [val_set_add _ _ _ hq, h, ← hp, Nat.add_mul, Nat.one_mul, Nat.pow_succ, Nat.mul_comm 2 K, Nat.mul_assoc, Nat.mul_comm 2]

theorem gcd_half_left {x y G : Nat} (h : Nat.gcd x y = G) (hG : G % 2 = 1) (hx : x % 2 = 0) : Nat.gcd (x / 2) y = G := by
  obtain ⟨k, rfl⟩ : ∃ k, x = 2 * k := ⟨x / 2, by omega⟩
  rw [Nat.mul_div_cancel_left _ (by decide)]
  have hc : Nat.Coprime G 2 := by
    have : Nat.gcd G 2 = Nat.gcd 2 G := Nat.gcd_comm _ _
    unfold Nat.Coprime
    rw [this, Nat.gcd_rec, hG]; rfl
  apply Nat.dvd_antisymm
  · rw [← h]
    exact Nat.dvd_gcd (Nat.dvd_trans (Nat.gcd_dvd_left k y) (Nat.dvd_mul_left _ _)) (Nat.gcd_dvd_right k y)
  · refine Nat.dvd_gcd (hc.dvd_of_dvd_mul_left ?_) ?_
    · rw [← h]; exact Nat.gcd_dvd_left _ _
    · rw [← h]; exact Nat.gcd_dvd_right _ _

theorem gcd_half_right {x y G : Nat} (h : Nat.gcd x y = G) (hG : G % 2 = 1) (hy : y % 2 = 0) : Nat.gcd x (y / 2) = G := by
  rw [Nat.gcd_comm] at h ⊢
  exact gcd_half_left h hG hy

theorem gcd_halves {x y : Nat} (hx : x % 2 = 0) (hy : y % 2 = 0) : Nat.gcd x y = 2 * Nat.gcd (x / 2) (y / 2) := by
  obtain ⟨k, rfl⟩ : ∃ k, x = 2 * k := ⟨x / 2, by omega⟩
  obtain ⟨l, rfl⟩ : ∃ k, y = 2 * k := ⟨y / 2, by omega⟩
  rw [Nat.mul_div_cancel_left _ (by decide), Nat.mul_div_cancel_left _ (by decide), Nat.gcd_mul_left]

theorem gcd_odd {x y : Nat} (h : ¬ (x % 2 = 0 ∧ y % 2 = 0)) : Nat.gcd x y % 2 = 1 := by
  rcases Nat.mod_two_eq_zero_or_one (Nat.gcd x y) with h0 | h0
  · exfalso
    apply h
    have hd : 2 ∣ Nat.gcd x y := Nat.dvd_of_mod_eq_zero h0
    exact ⟨Nat.mod_eq_zero_of_dvd (Nat.dvd_trans hd (Nat.gcd_dvd_left x y)), Nat.mod_eq_zero_of_dvd (Nat.dvd_trans hd (Nat.gcd_dvd_right x y))⟩
  · exact h0

theorem gcd_less {x y : Nat} (h : x ≤ y) : Nat.gcd x (y - x) = Nat.gcd x y := Nat.gcd_sub_self_right h
end Go.Proofs.Ytaekaikkldnikaa
