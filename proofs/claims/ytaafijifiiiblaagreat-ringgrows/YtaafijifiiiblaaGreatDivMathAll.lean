/-
  Proved here: what the plain way's Sub (of a smaller number), Add and Mul answer.
  Proved here: plain mathematics for the plain way's division (bit by bit) and common divisor (halves and differences).
  Proved here: what divideBy answers.
  Proved here: plain facts on a quotient's limb that is guessed out of the highest limbs. No condition.
-/
import Derived.Test.YtaafijifiiiblaaGreatRefB
import Derived.Test.YtaafijifiiiblaaGreatMul
import Derived.Test.YtaafijifiiiblaaGreatLiftAll
namespace Go.Proofs.YtaafijifiiiblaaGreat
open Go.RowKit

set_option maxRecDepth 100000 in
theorem sub_ref_no (u v : Value) (xs ys : List Nat) (w : World) (hu : Num w u xs) (hv : Num w v ys) (hbx : xs.length ≤ 1099511627776) (hby : ys.length ≤ 1099511627776) (hle : val xs < val ys) :
    Calls Tryz.prog 106 #[u, v] w fun e w' => e = .returned (.tuple #[.slice none 0 0, .bool false]) ∧ w' = w := by
  obtain ⟨ao, cap, rfl, hl1, hm1⟩ := hu.ao
  obtain ⟨bo, dap, rfl, hl2, hm2⟩ := hv.ao
  go_enter Tryz.func106, Tryz.ntmps106
  go_wp2_with fail
  refine (cmp_ref _ _ _ _ _ hu hv hbx hby).mono ?_
  rintro e w1 ⟨rfl, rfl⟩
  rw [cmpN_lt hle]
  clear hu hv
  go_wp2
  go_ret2
  exact ⟨rfl, rfl⟩

theorem add_end {xs ys zs : List Nat} {i : Nat} (hi : xs.length ≤ i) (hj : ys.length ≤ i) (h : val zs + 4294967296 ^ i * 0 = low xs i + low ys i) : val zs = val xs + val ys := by
  rw [low_all hi, low_all hj] at h; omega

set_option maxRecDepth 100000 in
set_option maxHeartbeats 3200000 in
theorem add_ref (u v : Value) (xs ys : List Nat) (w : World) (hu : Num w u xs) (hv : Num w v ys) (hbx : xs.length ≤ 1099511627775) (hby : ys.length ≤ 1099511627775) :
    Calls Tryz.prog 105 #[u, v] w fun e w' => Made' w.heap.size w (lim (val xs + val ys)) e w' := by
  obtain ⟨ao, cap, rfl, hl1, hm1⟩ := hu.ao
  obtain ⟨bo, dap, rfl, hl2, hm2⟩ := hv.ao
  obtain ⟨iU, hiU, hzU0, hzU1, hzU2⟩ := info_parts Tryz.infoU
  obtain ⟨k, hk⟩ : ∃ k, k = xs.length := ⟨_, rfl⟩
  obtain ⟨m, hm⟩ : ∃ m, m = ys.length := ⟨_, rfl⟩
  rw [← hk] at hu hl1 hbx ⊢
  rw [← hm] at hv hl2 hby ⊢
  have HK : Hid (k = xs.length) := hk
  have HM : Hid (m = ys.length) := hm
  clear hk hm
  go_enter Tryz.func105, Tryz.ntmps105
  go_wp2
  go_loopw [5, 6, 7] (fun o cv t wr => ∃ (i c : Nat) (zs : List Nat), i ≤ max k m + 1 ∧ t = .int .i64 i ∧ cv = .int .u64 c ∧ c ≤ 1 ∧ (max k m < i → c = 0) ∧ zs.length = i ∧ Own w.heap.size 100 wr o zs ∧ Below w.heap.size w wr ∧ w.heap.size ≤ wr.heap.size ∧ val zs + 4294967296 ^ i * c = low xs i + low ys i) (fun _ _ t _ => max k m + 1 - (intOf t).toNat)
  case atStart => exact ⟨0, 0, [], Nat.zero_le _, rfl, rfl, by omega, fun _ => rfl, rfl, Own.of_nil _ _ _, Below.refl _ _, Nat.le_refl _, by simp [low_zero, val]⟩
  case round =>
    obtain ⟨i, c, zs, hin, rfl, rfl, hc1, hci, hzl, how, hbel, hB, hinv⟩ := hrel
    have HZ : Hid (zs.length = i) := hzl
    have HI : Hid (val zs + 4294967296 ^ i * c = low xs i + low ys i) := hinv
    clear hzl hinv
    have nu2 := hu.below (Nat.le_refl _) hbel
    have nv2 := hv.below (Nat.le_refl _) hbel
    have him : i ≤ 1099511627777 := by omega
    by_cases hgo : i < k ∨ i < m ∨ 0 < c
    · have him2 : i ≤ max k m := by
        rcases hgo with h | h | h
        · omega
        · omega
        · rcases Nat.lt_or_ge (max k m) i with h2 | h2
          · have := hci h2; omega
          · exact h2
      have HIM : Hid (i ≤ max k m) := him2
      have hx0 := limb_lt hu.1 i
      have hy0 := limb_lt hv.1 i
      obtain ⟨x, hx⟩ : ∃ x, x = xs.getD i 0 := ⟨_, rfl⟩
      obtain ⟨y, hy⟩ : ∃ y, y = ys.getD i 0 := ⟨_, rfl⟩
      have HX : Hid (x = xs.getD i 0) := hx
      have HY : Hid (y = ys.getD i 0) := hy
      rw [← hx] at hx0
      rw [← hy] at hy0
      have HC : Hid (max k m < i + 1 → (c + x + y) / 4294967296 = 0) := by
        intro h
        have h1 : x = 0 := by rw [hx]; exact getD_ge (by have := HK.out; omega)
        have h2 : y = 0 := by rw [hy]; exact getD_ge (by have := HM.out; omega)
        omega
      have three : (i < k) ∨ (¬ i < k ∧ i < m) ∨ (¬ i < k ∧ ¬ i < m ∧ 0 < c) := by omega
      clear hx hy hci him2 hgo
      have HO : Hid (wr.ownsRow w.heap.size 100 1 u5 i (zs.map U)) := by show _; rw [← HZ.out]; exact how.2
      have HU : Hid (U ((c + x + y) % 4294967296) = .int .u32 (((c : Int) + (x : Int) + (y : Int)) % 4294967296)) := by show _ = _; simp [U]
      have hB3 : w.heap.size ≤ (wr.alloc (.cells #[.int .u32 (((c : Int) + (x : Int) + (y : Int)) % 4294967296)] 100)).heap.size := by simp; omega
      rcases three with h1 | ⟨h1, h2⟩ | ⟨h1, h2, h3⟩
      all_goals
        first | have d1 := decide_eq_true h1 | have d1 := decide_eq_false h1
        try (first | have d2 := decide_eq_true h2 | have d2 := decide_eq_false h2)
        try have d3 : (0 : Int) < (c : Int) := Int.natCast_pos.2 h3
        go_wp2_with fail
        refine (limb_ref _ _ _ _ nu2 (by omega)).mono ?_
        rintro e w3 ⟨rfl, rfl⟩
        rw [Int.toNat_natCast, ← HX.out]
        go_wp2_with fail
        refine (limb_ref _ _ _ _ nv2 (by omega)).mono ?_
        rintro e w4 ⟨rfl, rfl⟩
        rw [Int.toNat_natCast, ← HY.out]
        clear nu2 nv2
        go_wp2_with (at_builtin; refine wpList_push _ rfl _ _ 23 rfl w.heap.size 100 iU (.int .u32 0) 4 Tryz.underlying23 hiU hzU0 hzU1 hzU2 rfl _ i (zs.map U) rfl (HO.out.alloc _) ⟨w4.heap.size, 0, none⟩ 1 1 [.int .u32 (((c : Int) + (x : Int) + (y : Int)) % 4294967296)] rfl rfl (cell_one_new _ _ _) (fun u hu => by simp at hu; subst hu; rfl) (by decide) (by unfold maxLen; omega) (by omega) hB3 ?_)
        intro v' w5 ho hgr _ _
        have R := push_own (d := (c + x + y) % 4294967296) how hbel hB (by omega) (by rw [HZ.out, HU.out]; exact ho) hgr
        clear ho hgr how hbel hB HO hB3
        go_wp2
        go_roundw
        case rel => exact ⟨i + 1, (c + x + y) / 4294967296, _, by have := HIM.out; omega, by go_num, by go_num, by omega, HC.out, by rw [List.length_append, HZ.out]; rfl, R.1, R.2.1, R.2.2, by rw [HX.out, HY.out]; exact add_push HZ.out HI.out⟩
        case measure => have := HIM.out; simp [intOf]; omega
    · have h1 : ¬ i < k := fun h => hgo (Or.inl h)
      have h2 : ¬ i < m := fun h => hgo (Or.inr (Or.inl h))
      have h3 : c = 0 := by omega
      subst h3
      have d1 := decide_eq_false h1
      have d2 := decide_eq_false h2
      have HF : Hid (val zs = val xs + val ys) := add_end (by rw [← HK.out]; omega) (by rw [← HM.out]; omega) HI.out
      have hzl2 : zs.length ≤ 1099511627776 := by rw [HZ.out]; omega
      clear hgo hci nu2 nv2
      go_wp2_with fail
      refine (norm_ref _ _ _ how.num (by omega)).mono ?_
      rintro e w3 ⟨v3, rfl, ho3, hb3⟩
      rw [HF.out] at ho3
      have ho4 := ho3.mono hB
      have hb4 := hbel.trans (hb3.mono hB)
      clear how ho3 hb3 hbel
      go_wp2
      go_ret
      exact ⟨_, rfl, ho4, hb4⟩
end Go.Proofs.YtaafijifiiiblaaGreat

namespace Go.Proofs.YtaafijifiiiblaaGreat

theorem bit_split (A j : Nat) : A / 2 ^ j = 2 * (A / 2 ^ (j + 1)) + A / 2 ^ j % 2 := by
  rw [Nat.pow_succ, ← Nat.div_div_eq_div_mul]
  omega

theorem div_two_yes {X Y t R : Nat} (hR : 2 * (X % Y) + t = R) (ht : t ≤ 1) (hle : Y ≤ R) (hY : 0 < Y) :
    (2 * X + t) / Y = 2 * (X / Y) + 1 ∧ (2 * X + t) % Y = R - Y := by
  have h1 := Nat.div_add_mod X Y
  have h2 := Nat.mod_lt X hY
  have e : 2 * X + t = (R - Y) + Y * (2 * (X / Y) + 1) := by
    rw [Nat.mul_add, Nat.mul_left_comm Y 2]
    generalize Y * (X / Y) = Q at *
    omega
  have hlt : R - Y < Y := by omega
  rw [e]
  exact ⟨by rw [Nat.add_mul_div_left _ _ hY, Nat.div_eq_of_lt hlt]; omega, by rw [Nat.add_mul_mod_self_left, Nat.mod_eq_of_lt hlt]⟩

theorem div_two_no {X Y t R : Nat} (hR : 2 * (X % Y) + t = R) (hlt : R < Y) (hY : 0 < Y) :
    (2 * X + t) / Y = 2 * (X / Y) ∧ (2 * X + t) % Y = R := by
  have h1 := Nat.div_add_mod X Y
  have e : 2 * X + t = R + Y * (2 * (X / Y)) := by
    rw [Nat.mul_left_comm Y 2]
    generalize Y * (X / Y) = Q at *
    omega
  rw [e]
  exact ⟨by rw [Nat.add_mul_div_left _ _ hY, Nat.div_eq_of_lt hlt]; omega, by rw [Nat.add_mul_mod_self_left, Nat.mod_eq_of_lt hlt]⟩

/-- A limb of a number of which no bit below i + 1 is set has room for bit i. -/
theorem limb_room {zs : List Nat} (hz : limbs zs) {K j q r : Nat} (h : val zs = K * 2 ^ (j + 1)) (hp : 2 ^ j = 4294967296 ^ q * 2 ^ r) (hr : r ≤ 31) : zs.getD q 0 + 2 ^ r < 4294967296 := by
  have hd := limb_digit hz q
  have h1 : val zs / 4294967296 ^ q = K * 2 ^ (r + 1) := by
    rw [h, Nat.pow_succ, hp, Nat.mul_comm K, Nat.mul_assoc, Nat.mul_assoc, Nat.mul_div_cancel_left _ (Nat.pow_pos (by decide)), Nat.pow_succ, ← Nat.mul_assoc, Nat.mul_comm]
  have h2 : (4294967296 : Nat) = 2 ^ (r + 1) * 2 ^ (31 - r) := by rw [← Nat.pow_add, show r + 1 + (31 - r) = 32 by omega]
  rw [h1] at hd
  have h3 : K * 2 ^ (r + 1) % 4294967296 = 2 ^ (r + 1) * (K % 2 ^ (31 - r)) := by
    rw [h2, Nat.mul_comm K, Nat.mul_mod_mul_left]
  rw [h3] at hd
  have h4 : K % 2 ^ (31 - r) + 1 ≤ 2 ^ (31 - r) := Nat.mod_lt _ (Nat.two_pow_pos _)
  have h5 : 2 ^ (r + 1) * (K % 2 ^ (31 - r) + 1) ≤ 4294967296 := by
    calc 2 ^ (r + 1) * (K % 2 ^ (31 - r) + 1) ≤ 2 ^ (r + 1) * 2 ^ (31 - r) := Nat.mul_le_mul_left _ h4
      _ = 4294967296 := h2.symm
  rw [Nat.mul_add, Nat.mul_one, ← hd, Nat.pow_succ] at h5
  have := Nat.two_pow_pos r
  omega

theorem pull_bit {zs : List Nat} {K j q r : Nat} (hq : q < zs.length) (h : val zs = K * 2 ^ (j + 1)) (hp : 2 ^ j = 4294967296 ^ q * 2 ^ r) : val (zs.set q (zs.getD q 0 + 2 ^ r)) = (2 * K + 1) * 2 ^ j := by
  rw [val_set_add _ _ _ hq, h, ← hp, Nat.add_mul, Nat.one_mul, Nat.pow_succ, Nat.mul_comm 2 K, Nat.mul_assoc, Nat.mul_comm 2]

theorem gcd_half_left {x y G : Nat} (h : Nat.gcd x y = G) (hG : G % 2 = 1) (hx : x % 2 = 0) : Nat.gcd (x / 2) y = G := by
  obtain ⟨k, rfl⟩ : ∃ k, x = 2 * k := ⟨x / 2, by omega⟩
  rw [Nat.mul_div_cancel_left _ (by decide)]
  have hc : Nat.Coprime G 2 := by
    have : Nat.gcd G 2 = Nat.gcd 2 G := Nat.gcd_comm _ _
    unfold Nat.Coprime
    rw [this, Nat.gcd_rec, hG]; rfl
  apply Nat.dvd_antisymm
  · rw [← h]
    exact Nat.dvd_gcd (Nat.dvd_trans (Nat.gcd_dvd_left k y) (Nat.dvd_mul_left _ _)) (Nat.gcd_dvd_right k y)
  · refine Nat.dvd_gcd (hc.dvd_of_dvd_mul_left ?_) ?_
    · rw [← h]; exact Nat.gcd_dvd_left _ _
    · rw [← h]; exact Nat.gcd_dvd_right _ _

theorem gcd_half_right {x y G : Nat} (h : Nat.gcd x y = G) (hG : G % 2 = 1) (hy : y % 2 = 0) : Nat.gcd x (y / 2) = G := by
  rw [Nat.gcd_comm] at h ⊢
  exact gcd_half_left h hG hy

theorem gcd_halves {x y : Nat} (hx : x % 2 = 0) (hy : y % 2 = 0) : Nat.gcd x y = 2 * Nat.gcd (x / 2) (y / 2) := by
  obtain ⟨k, rfl⟩ : ∃ k, x = 2 * k := ⟨x / 2, by omega⟩
  obtain ⟨l, rfl⟩ : ∃ k, y = 2 * k := ⟨y / 2, by omega⟩
  rw [Nat.mul_div_cancel_left _ (by decide), Nat.mul_div_cancel_left _ (by decide), Nat.gcd_mul_left]

theorem gcd_odd {x y : Nat} (h : ¬ (x % 2 = 0 ∧ y % 2 = 0)) : Nat.gcd x y % 2 = 1 := by
  rcases Nat.mod_two_eq_zero_or_one (Nat.gcd x y) with h0 | h0
  · exfalso
    apply h
    have hd : 2 ∣ Nat.gcd x y := Nat.dvd_of_mod_eq_zero h0
    exact ⟨Nat.mod_eq_zero_of_dvd (Nat.dvd_trans hd (Nat.gcd_dvd_left x y)), Nat.mod_eq_zero_of_dvd (Nat.dvd_trans hd (Nat.gcd_dvd_right x y))⟩
  · exact h0

theorem gcd_less {x y : Nat} (h : x ≤ y) : Nat.gcd x (y - x) = Nat.gcd x y := Nat.gcd_sub_self_right h
end Go.Proofs.YtaafijifiiiblaaGreat

namespace Go.Proofs.YtaafijifiiiblaaGreat
open Go.RowKit

theorem val_drop_step (zs : List Nat) (j : Nat) : val (zs.drop j) = zs.getD j 0 + 4294967296 * val (zs.drop (j + 1)) := by
  rw [val_tail (zs.drop j), getD_drop, Nat.add_zero, List.tail_drop]
theorem or_low {x y : Nat} (hx : x < 4294967296) (hy : y < 4294967296) : bits BinOp.or IntKind.u64 ((y : Int) * 4294967296) (x : Int) = ((y * 4294967296 + x : Nat) : Int) := by
  have h := bits_or_u64_nat (y * 4294967296) x (by omega) (by omega)
  rw [show ((y : Int) * 4294967296) = ((y * 4294967296 : Nat) : Int) by omega, h]
  congr 1
  have h2 := Nat.shiftLeft_add_eq_or_of_lt (i := 32) (b := x) (by simpa using hx) y
  rw [Nat.shiftLeft_eq, show (2 ^ 32 : Nat) = 4294967296 from rfl] at h2
  rw [← h2]
theorem div_by_step {zs ys : List Nat} {j l b d r : Nat} (hj : j < ys.length) (h : val (ys.drop (j + 1)) * b + l = val (zs.drop (j + 1))) (hd : (l * 4294967296 + zs.getD j 0) = d * b + r) :
    val ((ys.set j d).drop j) * b + r = val (zs.drop j) := by
  have e1 := val_drop_step (ys.set j d) j
  have e2 : (ys.set j d).drop (j + 1) = ys.drop (j + 1) := List.drop_set_of_lt (by omega)
  rw [getD_set_eq _ _ _ hj, e2] at e1
  rw [e1, val_drop_step zs j, ← h, Nat.add_mul, Nat.mul_add, Nat.mul_assoc]
  omega

theorem grownBy_set {w0 w : World} {g : Nat} (h : w0.grownBy w (some g)) (k : Nat) (u : Value) : w0.grownBy (w.setCell ⟨g, k, none⟩ u) (some g) :=
  ⟨h.os, h.tape, h.output, by simp [World.setCell]; exact h.size, fun j hj hne => by
    rw [heap_setCell_other]
    · exact h.block j hj hne
    · intro e; exact hne (by rw [e])⟩

/-- What divideBy leaves. -/
def ByEnd (B : Nat) (w0 : World) (g cap : Nat) (zs : List Nat) (b : Nat) (e : Ending) (w' : World) : Prop :=
  ∃ ys : List Nat, e = .returned (.int .u32 ((val zs % b : Nat) : Int)) ∧ ys.length = zs.length ∧ Own B 100 w' (.slice (some ⟨g, 0, none⟩) zs.length cap) ys ∧ val ys = val zs / b ∧ w0.grownBy w' (some g)

set_option maxRecDepth 100000 in
set_option maxHeartbeats 1600000 in
theorem divideBy_any (zs : List Nat) (B g n cap : Nat) (bI : Int) (w : World) (hc : Own B 100 w (.slice (some ⟨g, 0, none⟩) n cap) zs) (hn : zs.length = n) (hnc : n ≤ cap) (hcm : cap ≤ 9223372036854775807) (hb0 : 0 < bI) (hb1 : bI < 4294967296) :
    Calls Tryz.prog 148 #[.slice (some ⟨g, 0, none⟩) n cap, .int .u32 bI] w fun e w' => ByEnd B w g cap zs bI.toNat e w' := by
  obtain ⟨b, rfl⟩ := Int.eq_ofNat_of_zero_le (Int.le_of_lt hb0)
  rw [Int.toNat_natCast]
  have hbp : 0 < b := by omega
  have hb1' : 1 ≤ (b : Int) := by omega
  have HN : Hid (zs.length = n) := hn
  have HC0 : Hid (Own B 100 w (.slice (some ⟨g, 0, none⟩) n cap) zs) := hc
  have HZ0 : Hid (limbs zs) := hc.1
  clear hn hc
  go_enter Tryz.func148, Tryz.ntmps148
  go_wp2
  go_loopw [5, 6] (fun lv t wr => ∃ (i l : Nat) (ys : List Nat), i ≤ n ∧ t = .int .i64 ((i : Int) - 1) ∧ lv = .int .u64 l ∧ l < b ∧ ys.length = n ∧ Own B 100 wr (.slice (some ⟨g, 0, none⟩) n cap) ys ∧ w.grownBy wr (some g) ∧ (∀ j, j < i → ys.getD j 0 = zs.getD j 0) ∧ val (ys.drop i) * b + l = val (zs.drop i)) (fun _ t _ => (intOf t + 1).toNat)
  case atStart =>
    refine ⟨n, 0, zs, Nat.le_refl _, rfl, rfl, hbp, HN.out, HC0.out, World.grownBy.refl _ _, fun _ _ => rfl, ?_⟩
    rw [List.drop_of_length_le (by rw [HN.out]; exact Nat.le_refl _)]
    simp [val]
  case round =>
    clear HC0
    obtain ⟨i, l, ys, hin, rfl, rfl, hlb, hyl, hcs, hbel, hsame, hinv⟩ := hrel
    have HY : Hid (ys.length = n) := hyl
    have HS : Hid (∀ j, j < i → ys.getD j 0 = zs.getD j 0) := hsame
    have HI : Hid (val (ys.drop i) * b + l = val (zs.drop i)) := hinv
    clear hyl hsame hinv
    by_cases hi0 : 0 < i
    · obtain ⟨j, rfl⟩ : ∃ j, i = j + 1 := ⟨i - 1, by omega⟩
      have ej : ((j + 1 : Nat) : Int) - 1 = (j : Int) := by omega
      rw [ej]
      have hge : (0 : Int) ≤ (j : Int) := by omega
      have hjn : (j : Int) < (n : Int) := by omega
      obtain ⟨cz, hfz⟩ := hcs.cell (k := j) (by rw [HY.out]; omega)
      rw [HS.out j (by omega)] at cz
      have hz0 := limb_lt HZ0.out j
      obtain ⟨z, hz⟩ : ∃ z, z = zs.getD j 0 := ⟨_, rfl⟩
      rw [← hz] at cz hz0
      have HZ : Hid (z = zs.getD j 0) := hz
      have hl32 : l < 4294967296 := by omega
      have eor := or_low hz0 hl32
      obtain ⟨T, hT⟩ : ∃ T, T = l * 4294967296 + z := ⟨_, rfl⟩
      rw [← hT] at eor
      have hT1 : T < 18446744073709551616 := by omega
      have HT : Hid (T = l * 4294967296 + z) := hT
      have hTb : T < b * 4294967296 := by
        have : (l + 1) * 4294967296 ≤ b * 4294967296 := Nat.mul_le_mul_right _ hlb
        omega
      have hd0 : T / b < 4294967296 := Nat.div_lt_of_lt_mul hTb
      have hr0 : T % b < b := Nat.mod_lt _ hbp
      obtain ⟨d, hd⟩ : ∃ d, d = T / b := ⟨_, rfl⟩
      obtain ⟨r, hr⟩ : ∃ r, r = T % b := ⟨_, rfl⟩
      have ed : (T : Int) / (b : Int) = (d : Int) := by rw [hd]; exact (Int.natCast_ediv T b).symm
      have er : (T : Int) % (b : Int) = (r : Int) := by rw [hr]; exact (Int.natCast_emod T b).symm
      have HDR : Hid (T = d * b + r) := by show _ = _; rw [hd, hr, Nat.mul_comm]; exact (Nat.div_add_mod T b).symm
      rw [← hd] at hd0
      rw [← hr] at hr0
      have hset := hcs.set HY.out j d hd0
      have hbel2 := grownBy_set hbel j (U d)
      rw [show U d = .int .u32 (d : Int) from rfl] at hset hbel2
      clear hz hT hTb hd hr hcs hbel
      go_wp2
      go_roundw
      case rel =>
        refine ⟨j, r, _, by omega, by go_num, by go_num, hr0, by rw [List.length_set]; exact HY.out, hset, hbel2, fun q hq => ?_, ?_⟩
        · rw [getD_set_off _ _ _ _ (by omega)]; exact HS.out q (by omega)
        · exact div_by_step (by rw [HY.out]; omega) HI.out (by rw [← HZ.out, ← HT.out]; exact HDR.out)
      case measure => simp [intOf]
    · have hi1 : i = 0 := by omega
      subst hi1
      have hfin := HI.out
      rw [List.drop_zero, List.drop_zero] at hfin
      have h1 : val zs % b = l := by rw [← hfin, Nat.add_comm, Nat.add_mul_mod_self_right, Nat.mod_eq_of_lt hlb]
      have h2 : val ys = val zs / b := by rw [← hfin, Nat.add_comm, Nat.add_mul_div_right _ _ hbp, Nat.div_eq_of_lt hlb, Nat.zero_add]
      have HE : Hid (ByEnd B w g cap zs b (.returned (.int .u32 (l : Int))) wr) := ⟨ys, by rw [h1], by rw [HY.out, HN.out], by rw [HN.out]; exact hcs, h2, hbel⟩
      clear hfin h1 h2 hcs hbel HI
      go_wp2
      go_ret
      exact HE.out
end Go.Proofs.YtaafijifiiiblaaGreat

namespace Go.Proofs.YtaafijifiiiblaaGreat

/-- Whatever the guess is above the quotient of the highest limbs, the true one is not above that. -/
theorem guess_low {part b D N P q : Nat} (hb : D * P ≤ b) (hp : part < (N + 1) * P) (h : q * b ≤ part) : q * D ≤ N := by
  have h1 : q * (D * P) ≤ q * b := Nat.mul_le_mul_left _ hb
  rw [← Nat.mul_assoc] at h1
  have h2 : q * D * P < (N + 1) * P := Nat.lt_of_le_of_lt (Nat.le_trans h1 h) hp
  have := Nat.lt_of_mul_lt_mul_right h2
  omega
theorem guess_high {part b D N P q : Nat} (hb : b < (D + 1) * P) (hp : N * P ≤ part) (h : q * D ≤ N) (hq : q ≤ D + 1) : (q - 1) * b ≤ part := by
  rcases Nat.eq_zero_or_pos q with h0 | h0
  · subst h0; simp
  · obtain ⟨k, rfl⟩ : ∃ k, q = k + 1 := ⟨q - 1, by omega⟩
    rw [Nat.add_sub_cancel]
    have h1 : k * b ≤ k * ((D + 1) * P) := Nat.mul_le_mul_left _ (Nat.le_of_lt hb)
    have h2 : k * (D + 1) ≤ N := by
      rw [Nat.mul_add, Nat.mul_one]
      rw [Nat.add_mul, Nat.one_mul] at h
      omega
    rw [← Nat.mul_assoc] at h1
    exact Nat.le_trans h1 (Nat.le_trans (Nat.mul_le_mul_right _ h2) hp)
theorem out_lit (P x : Nat) : P * 4294967296 * x = 4294967296 * (P * x) := by rw [Nat.mul_right_comm, Nat.mul_comm]
theorem out_lit2 (P x : Nat) : x * 4294967296 * P = 4294967296 * (P * x) := by rw [Nat.mul_right_comm, Nat.mul_comm, Nat.mul_comm x P]
/-- The highest limbs of a number. -/
theorem top_two {b : List Nat} {n : Nat} (hb : limbs b) (hl : b.length = n + 2) : (b.getD (n + 1) 0 * 4294967296 + b.getD n 0) * 4294967296 ^ n ≤ val b ∧ val b < (b.getD (n + 1) 0 * 4294967296 + b.getD n 0 + 1) * 4294967296 ^ n := by
  have e1 := low_succ b n
  have e2 := low_succ b (n + 1)
  rw [low_all (by omega), e1, Nat.pow_succ, out_lit] at e2
  have h := low_lt hb n
  generalize 4294967296 ^ n = P at *
  generalize b.getD (n + 1) 0 = x at *
  generalize b.getD n 0 = y at *
  rw [Nat.add_mul (x * 4294967296 + y) 1 P, Nat.one_mul, Nat.add_mul, out_lit2, Nat.mul_comm y P]
  omega
theorem top_three {p : List Nat} {n : Nat} (hp : limbs p) (hl : p.length = n + 3) : ((p.getD (n + 2) 0 * 4294967296 + p.getD (n + 1) 0) * 4294967296 + p.getD n 0) * 4294967296 ^ n ≤ val p ∧ val p < ((p.getD (n + 2) 0 * 4294967296 + p.getD (n + 1) 0) * 4294967296 + p.getD n 0 + 1) * 4294967296 ^ n := by
  have e1 := low_succ p n
  have e2 := low_succ p (n + 1)
  have e3 := low_succ p (n + 2)
  have hp1 : 4294967296 ^ (n + 1) = 4294967296 ^ n * 4294967296 := Nat.pow_succ ..
  have hp2 : 4294967296 ^ (n + 2) = 4294967296 ^ n * 4294967296 * 4294967296 := by rw [Nat.pow_succ, Nat.pow_succ]
  rw [show n + 2 + 1 = n + 3 from rfl, low_all (by omega), show n + 2 = n + 1 + 1 from rfl, e2, e1, show n + 1 + 1 = n + 2 from rfl, hp1, hp2, out_lit, out_lit (4294967296 ^ n * 4294967296), out_lit] at e3
  have h := low_lt hp n
  generalize 4294967296 ^ n = P at *
  generalize p.getD (n + 2) 0 = x at *
  generalize p.getD (n + 1) 0 = y at *
  generalize p.getD n 0 = z at *
  rw [Nat.add_mul ((x * 4294967296 + y) * 4294967296 + z) 1 P, Nat.one_mul, Nat.add_mul, out_lit2, Nat.mul_comm z P, Nat.mul_add P, Nat.mul_comm P (x * 4294967296), out_lit2]
  omega
/-- What the multiple carries on. -/
theorem carry_step {b : List Nat} {q i m : Nat} (h : m = low b i * q / 4294967296 ^ i) : (m + b.getD i 0 * q) / 4294967296 = low b (i + 1) * q / 4294967296 ^ (i + 1) := by
  rw [low_succ, Nat.add_mul, Nat.pow_succ, ← Nat.div_div_eq_div_mul, Nat.mul_assoc, Nat.add_mul_div_left _ _ (Nat.pow_pos (by decide)), ← h]
theorem carry_lt {b : List Nat} (hb : limbs b) {q : Nat} (hq : q < 4294967296) (i : Nat) : low b i * q / 4294967296 ^ i < 4294967296 := by
  apply Nat.div_lt_of_lt_mul
  exact Nat.mul_lt_mul'' (low_lt hb i) hq
theorem carry_end {b : List Nat} (hb : limbs b) {q : Nat} (hq : q < 4294967296) : low b (b.length + 1) * q / 4294967296 ^ (b.length + 1) = 0 := by
  rw [low_all (by omega)]
  apply Nat.div_eq_of_lt
  rw [Nat.pow_succ]
  exact Nat.mul_lt_mul'' (val_lt hb) hq
end Go.Proofs.YtaafijifiiiblaaGreat
