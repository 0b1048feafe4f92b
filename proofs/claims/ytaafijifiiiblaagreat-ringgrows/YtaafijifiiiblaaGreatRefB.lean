/-
  Proved here: what the plain way's Cmp, Sub and Add answer.
-/
import Derived.Test.YtaafijifiiiblaaGreatBitsAll
import Derived.Test.YtaafijifiiiblaaGreatRefDoubleAll
namespace Go.Proofs.YtaafijifiiiblaaGreat
open Go.RowKit

set_option maxRecDepth 100000 in
set_option maxHeartbeats 1600000 in
theorem cmp_ref (u v : Value) (xs ys : List Nat) (w : World) (hu : Num w u xs) (hv : Num w v ys) (hbx : xs.length ≤ 1099511627776) (hby : ys.length ≤ 1099511627776) :
    Calls Tryz.prog 125 #[u, v] w fun e w' => e = .returned (.int .i64 (cmpN (val xs) (val ys))) ∧ w' = w := by
  obtain ⟨ao, cap, rfl, hl1, hm1⟩ := hu.ao
  obtain ⟨bo, dap, rfl, hl2, hm2⟩ := hv.ao
  obtain ⟨k, hk⟩ : ∃ k, k = xs.length := ⟨_, rfl⟩
  obtain ⟨m, hm⟩ : ∃ m, m = ys.length := ⟨_, rfl⟩
  rw [← hk] at hu hl1 hbx ⊢
  rw [← hm] at hv hl2 hby ⊢
  have HK : Hid (k = xs.length) := hk
  have HM : Hid (m = ys.length) := hm
  clear hk hm
  have pre : ∃ n : Nat, k ≤ n ∧ m ≤ n ∧ n ≤ 1099511627776 ∧ ((k < m ∧ n = m) ∨ (¬ k < m ∧ n = k)) := by
    by_cases h : k < m
    · exact ⟨m, by omega, by omega, by omega, Or.inl ⟨h, rfl⟩⟩
    · exact ⟨k, by omega, by omega, by omega, Or.inr ⟨h, rfl⟩⟩
  obtain ⟨n, hn1, hn2, hn3, hcase⟩ := pre
  rcases hcase with ⟨hkm, hn⟩ | ⟨hkm, hn⟩
  all_goals
    have HNN : Hid (n = _) := hn
    clear hn
    go_enter Tryz.func125, Tryz.ntmps125
    go_wp2
    go_loop [6] (fun t => ∃ i : Nat, i ≤ n ∧ t = .int .i64 ((i : Int) - 1) ∧ (∀ j, i ≤ j → xs.getD j 0 = ys.getD j 0)) (fun t => (intOf t + 1).toNat)
    case atStart => exact ⟨n, Nat.le_refl _, by rw [HNN.out], fun j hj => by rw [getD_ge (by have := HK.out; omega), getD_ge (by have := HM.out; omega)]⟩
    case round =>
      obtain ⟨i, hi, rfl, hz⟩ := hrel
      have HZ : Hid (∀ j, i ≤ j → xs.getD j 0 = ys.getD j 0) := hz
      clear hz
      by_cases hi0 : 0 < i
      · have hge : (0 : Int) ≤ (i : Int) - 1 := by omega
        have hx0 := limb_lt hu.1 (i - 1)
        have hy0 := limb_lt hv.1 (i - 1)
        have ei : ((i : Int) - 1).toNat = i - 1 := by omega
        obtain ⟨x, hx⟩ : ∃ x, x = xs.getD (i - 1) 0 := ⟨_, rfl⟩
        obtain ⟨y, hy⟩ : ∃ y, y = ys.getD (i - 1) 0 := ⟨_, rfl⟩
        have HX : Hid (x = xs.getD (i - 1) 0) := hx
        have HY : Hid (y = ys.getD (i - 1) 0) := hy
        have HEI : Hid (((i : Int) - 1).toNat = i - 1) := ei
        rw [← hx] at hx0
        rw [← hy] at hy0
        clear hx hy ei
        go_wp2_with fail
        refine (limb_ref _ _ _ _ hu (by omega)).mono ?_
        rintro e w2 ⟨rfl, rfl⟩
        rw [HEI.out, ← HX.out]
        go_wp2_with fail
        refine (limb_ref _ _ _ _ hv (by omega)).mono ?_
        rintro e w3 ⟨rfl, rfl⟩
        rw [HEI.out, ← HY.out]
        have top : ∀ j, i - 1 < j → xs.getD j 0 = ys.getD j 0 := fun j hj => HZ.out j (by omega)
        have HT : Hid (∀ j, i - 1 < j → xs.getD j 0 = ys.getD j 0) := top
        clear top
        by_cases h1 : x < y
        · have HR : Hid (cmpN (val xs) (val ys) = -1) := cmpN_lt (val_lt_top (i - 1) hu.1 hv.1 HT.out (by rw [← HX.out, ← HY.out]; exact h1))
          have h1' : (x : Int) < (y : Int) := by omega
          clear hu hv
          go_wp2
          go_ret
          exact ⟨by rw [HR.out]; rfl, rfl⟩
        · have h1' : ¬ (x : Int) < (y : Int) := by omega
          by_cases h2 : y < x
          · have HR : Hid (cmpN (val xs) (val ys) = 1) := cmpN_gt (val_lt_top (i - 1) hv.1 hu.1 (fun j hj => (HT.out j hj).symm) (by rw [← HX.out, ← HY.out]; exact h2))
            have h2' : (y : Int) < (x : Int) := by omega
            clear hu hv
            go_wp2
            go_ret
            exact ⟨by rw [HR.out]; rfl, rfl⟩
          · have h2' : ¬ (y : Int) < (x : Int) := by omega
            go_wp2
            go_round
            case rel =>
              refine ⟨i - 1, by omega, by congr 1; omega, fun j hj => ?_⟩
              by_cases hj2 : j = i - 1
              · rw [hj2, ← HX.out, ← HY.out]; omega
              · exact HZ.out j (by omega)
            case measure => simp [intOf]; omega
      · have hi1 : i = 0 := by omega
        subst hi1
        have HR : Hid (cmpN (val xs) (val ys) = 0) := by
          show _ = _
          rw [val_congr n (by have := HK.out; omega) (by have := HM.out; omega) (fun j => HZ.out j (by omega))]
          exact cmpN_eq _
        clear hu hv
        go_wp2
        go_ret
        exact ⟨by rw [HR.out]; rfl, rfl⟩

theorem low_mod {ys : List Nat} (h : limbs ys) (n : Nat) : low ys n = val ys % 4294967296 ^ n := by
  have h1 := low_lt h n
  rcases Nat.lt_or_ge n ys.length with hn | hn
  · conv => rhs; rw [val_split ys n (by omega), Nat.add_mul_mod_self_left, Nat.mod_eq_of_lt h1]
  · rw [low_all hn] at h1 ⊢
    rw [Nat.mod_eq_of_lt h1]

theorem sub_done {xs ys zs : List Nat} {b : Nat} (hx : limbs xs) (hy : limbs ys) (hz : limbs zs) (hzl : zs.length = xs.length) (hle : val ys ≤ val xs) (h : low xs xs.length + 4294967296 ^ xs.length * b = low ys xs.length + val zs) : val zs = val xs - val ys := by
  have h1 := val_lt hx
  have h2 := val_lt hz
  rw [low_all (Nat.le_refl _), low_mod hy, Nat.mod_eq_of_lt (by omega)] at h
  rw [hzl] at h2
  rcases Nat.eq_zero_or_pos b with hb | hb
  · subst hb; omega
  · have := Nat.mul_le_mul_left (4294967296 ^ xs.length) hb
    omega
theorem sub_step {xs ys zs : List Nat} {i b b' d : Nat} (hzl : zs.length = i) (h : low xs i + 4294967296 ^ i * b = low ys i + val zs) (hd : xs.getD i 0 + 4294967296 * b' = ys.getD i 0 + b + d) :
    low xs (i + 1) + 4294967296 ^ (i + 1) * b' = low ys (i + 1) + val (zs ++ [d]) := by
  rw [val_snoc, low_succ, low_succ, hzl, Nat.pow_succ]
  have e : 4294967296 ^ i * (xs.getD i 0 + 4294967296 * b') = 4294967296 ^ i * (ys.getD i 0 + b + d) := by rw [hd]
  rw [Nat.mul_add, Nat.mul_add, Nat.mul_add, ← Nat.mul_assoc] at e
  omega
theorem add_push {xs ys zs : List Nat} {i c : Nat} (hzl : zs.length = i) (h : val zs + 4294967296 ^ i * c = low xs i + low ys i) :
    val (zs ++ [(c + xs.getD i 0 + ys.getD i 0) % 4294967296]) + 4294967296 ^ (i + 1) * ((c + xs.getD i 0 + ys.getD i 0) / 4294967296) = low xs (i + 1) + low ys (i + 1) := by
  rw [val_snoc, low_succ, low_succ, Nat.pow_succ, hzl]
  have := carry_eq (4294967296 ^ i) (c + xs.getD i 0 + ys.getD i 0)
  rw [Nat.mul_add, Nat.mul_add] at this
  omega


set_option maxRecDepth 100000 in
set_option maxHeartbeats 1600000 in
theorem sub_ref_yes (u v : Value) (xs ys : List Nat) (w : World) (hu : Num w u xs) (hv : Num w v ys) (hbx : xs.length ≤ 1099511627776) (hby : ys.length ≤ 1099511627776) (hle : val ys ≤ val xs) :
    Calls Tryz.prog 106 #[u, v] w fun e w' => SubEnd w.heap.size w (lim (val xs - val ys)) e w' := by
  obtain ⟨ao, cap, rfl, hl1, hm1⟩ := hu.ao
  obtain ⟨bo, dap, rfl, hl2, hm2⟩ := hv.ao
  obtain ⟨iU, hiU, hzU0, hzU1, hzU2⟩ := info_parts Tryz.infoU
  go_enter Tryz.func106, Tryz.ntmps106
  go_wp2_with fail
  refine (cmp_ref _ _ _ _ _ hu hv hbx hby).mono ?_
  rintro e w1 ⟨rfl, rfl⟩
  have hnl : ¬ cmpN (val xs) (val ys) < 0 := by rcases cmpN_cases (val xs) (val ys) with h | h | h <;> omega
  obtain ⟨c, hc⟩ : ∃ c, c = cmpN (val xs) (val ys) := ⟨_, rfl⟩
  rw [← hc] at hnl ⊢
  clear hc
  obtain ⟨n, hn⟩ : ∃ n, n = xs.length := ⟨_, rfl⟩
  rw [← hn] at hu hl1 hbx ⊢
  have HN : Hid (n = xs.length) := hn
  have HLE : Hid (val ys ≤ val xs) := hle
  clear hn hle
  go_wp2
  go_loopw [6, 7, 8] (fun o bv t wr => ∃ (i b : Nat) (zs : List Nat), i ≤ n ∧ t = .int .i64 i ∧ bv = .int .u64 b ∧ b ≤ 1 ∧ zs.length = i ∧ Own w1.heap.size 100 wr o zs ∧ Below w1.heap.size w1 wr ∧ w1.heap.size ≤ wr.heap.size ∧ low xs i + 4294967296 ^ i * b = low ys i + val zs) (fun _ _ t _ => n - (intOf t).toNat)
  case atStart => exact ⟨0, 0, [], Nat.zero_le _, rfl, rfl, by omega, rfl, Own.of_nil _ _ _, Below.refl _ _, Nat.le_refl _, by simp [low_zero, val]⟩
  case round =>
    obtain ⟨i, b, zs, hin, rfl, rfl, hb1, hzl, how, hbel, hB, hinv⟩ := hrel
    have HZ : Hid (zs.length = i) := hzl
    have HI : Hid (low xs i + 4294967296 ^ i * b = low ys i + val zs) := hinv
    clear hzl hinv
    have nu2 := hu.below (Nat.le_refl _) hbel
    have nv2 := hv.below (Nat.le_refl _) hbel
    by_cases hlt : i < n
    · have hlt' : (i : Int) < (n : Int) := by omega
      have hx0 := limb_lt hu.1 i
      have hy0 := limb_lt hv.1 i
      obtain ⟨x, hx⟩ : ∃ x, x = xs.getD i 0 := ⟨_, rfl⟩
      obtain ⟨y, hy⟩ : ∃ y, y = ys.getD i 0 := ⟨_, rfl⟩
      have HX : Hid (x = xs.getD i 0) := hx
      have HY : Hid (y = ys.getD i 0) := hy
      rw [← hx] at hx0
      rw [← hy] at hy0
      clear hx hy
      go_wp2_with fail
      refine (limb_ref _ _ _ _ nu2 (by omega)).mono ?_
      rintro e w3 ⟨rfl, rfl⟩
      rw [Int.toNat_natCast, ← HX.out]
      go_wp2_with fail
      refine (limb_ref _ _ _ _ nv2 (by omega)).mono ?_
      rintro e w4 ⟨rfl, rfl⟩
      rw [Int.toNat_natCast, ← HY.out]
      clear nu2 nv2
      have HO : Hid (w4.ownsRow w1.heap.size 100 1 u6 i (zs.map U)) := by show _; rw [← HZ.out]; exact how.2
      by_cases hxy : x < y + b
      · have hxy' : (x : Int) < (y : Int) + (b : Int) := by omega
        have hB3 : w1.heap.size ≤ (w4.alloc (.cells #[.int .u32 ((x : Int) + 4294967296 - ((y : Int) + (b : Int)))] 100)).heap.size := by simp; omega
        go_wp2_with (at_builtin; refine wpList_push _ rfl _ _ 23 rfl w1.heap.size 100 iU (.int .u32 0) 4 Tryz.underlying23 hiU hzU0 hzU1 hzU2 rfl _ i (zs.map U) rfl (HO.out.alloc _) ⟨w4.heap.size, 0, none⟩ 1 1 [.int .u32 ((x : Int) + 4294967296 - ((y : Int) + (b : Int)))] rfl rfl (cell_one_new _ _ _) (fun u hu => by simp at hu; subst hu; rfl) (by decide) (by unfold maxLen; omega) (by omega) hB3 ?_)
        intro v' w5 ho hgr _ _
        have R := push_own (d := x + 4294967296 - (y + b)) how hbel hB (by omega) (by rw [HZ.out, show U (x + 4294967296 - (y + b)) = .int .u32 ((x : Int) + 4294967296 - ((y : Int) + (b : Int))) by unfold U; congr 1; omega]; exact ho) hgr
        clear ho hgr how hbel hB HO hB3
        go_wp2
        go_roundw
        case rel => exact ⟨i + 1, 1, _, by omega, by go_num, rfl, by omega, by rw [List.length_append, HZ.out]; rfl, R.1, R.2.1, R.2.2, sub_step HZ.out HI.out (by rw [← HX.out, ← HY.out]; omega)⟩
        case measure => simp [intOf]; omega
      · have hxy' : ¬ (x : Int) < (y : Int) + (b : Int) := by omega
        have hB3 : w1.heap.size ≤ (w4.alloc (.cells #[.int .u32 ((x : Int) - ((y : Int) + (b : Int)))] 100)).heap.size := by simp; omega
        go_wp2_with (at_builtin; refine wpList_push _ rfl _ _ 23 rfl w1.heap.size 100 iU (.int .u32 0) 4 Tryz.underlying23 hiU hzU0 hzU1 hzU2 rfl _ i (zs.map U) rfl (HO.out.alloc _) ⟨w4.heap.size, 0, none⟩ 1 1 [.int .u32 ((x : Int) - ((y : Int) + (b : Int)))] rfl rfl (cell_one_new _ _ _) (fun u hu => by simp at hu; subst hu; rfl) (by decide) (by unfold maxLen; omega) (by omega) hB3 ?_)
        intro v' w5 ho hgr _ _
        have R := push_own (d := x - (y + b)) how hbel hB (by omega) (by rw [HZ.out, show U (x - (y + b)) = .int .u32 ((x : Int) - ((y : Int) + (b : Int))) by unfold U; congr 1; omega]; exact ho) hgr
        clear ho hgr how hbel hB HO hB3
        go_wp2
        go_roundw
        case rel => exact ⟨i + 1, 0, _, by omega, by go_num, rfl, by omega, by rw [List.length_append, HZ.out]; rfl, R.1, R.2.1, R.2.2, sub_step HZ.out HI.out (by rw [← HX.out, ← HY.out]; omega)⟩
        case measure => simp [intOf]; omega
    · have hlt' : ¬ (i : Int) < (n : Int) := by omega
      have hin' : i = n := by omega
      have HF : Hid (val zs = val xs - val ys) := by
        have h1 := HI.out
        rw [hin', HN.out] at h1
        exact sub_done hu.1 hv.1 how.1 (by rw [HZ.out, hin']; exact HN.out) HLE.out h1
      have hzl2 : zs.length ≤ 1099511627776 := by rw [HZ.out]; omega
      clear hin' nu2 nv2
      go_wp2_with fail
      refine (norm_ref _ _ _ how.num hzl2).mono ?_
      rintro e w3 ⟨v3, rfl, ho3, hb3⟩
      rw [HF.out] at ho3
      have ho4 := ho3.mono hB
      have hb4 := hbel.trans (hb3.mono hB)
      clear how ho3 hb3 hbel
      go_wp2
      go_ret2
      exact ⟨_, rfl, ho4, hb4⟩
end Go.Proofs.YtaafijifiiiblaaGreat
