/-
  Proved here: what the plain way's Sub (of a smaller number), Add and Mul answer.
-/
import Derived.Test.YtnlajeinegampaaRefB
import Derived.Test.YtnlajeinegampaaMul
namespace Go.Proofs.Ytnlajeinegampaa
open Go.RowKit

set_option maxRecDepth 100000 in
theorem sub_ref_no (u v : Value) (xs ys : List Nat) (w : World) (hu : Num w u xs) (hv : Num w v ys) (hbx : xs.length ≤ 1099511627776) (hby : ys.length ≤ 1099511627776) (hle : val xs < val ys) :
    Calls Try.prog 35 #[u, v] w fun e w' => e = .returned (.tuple #[.slice none 0 0, .bool false]) ∧ w' = w := by
  obtain ⟨ao, cap, rfl, hl1, hm1⟩ := hu.ao
  obtain ⟨bo, dap, rfl, hl2, hm2⟩ := hv.ao
  go_enter Try.func35, Try.ntmps35
  go_wp2_with fail
  refine (cmp_ref _ _ _ _ _ hu hv hbx hby).mono ?_
  rintro e w1 ⟨rfl, rfl⟩
  rw [cmpN_lt hle]
  clear hu hv
  go_wp2
  go_ret2
  exact ⟨rfl, rfl⟩

theorem add_end {xs ys zs : List Nat} {i : Nat} (hi : xs.length ≤ i) (hj : ys.length ≤ i) (h : val zs + 4294967296 ^ i * 0 = low xs i + low ys i) : val zs = val xs + val ys := by
  rw [low_all hi, low_all hj] at h; omega

set_option maxRecDepth 100000 in
set_option maxHeartbeats 3200000 in
theorem add_ref (u v : Value) (xs ys : List Nat) (w : World) (hu : Num w u xs) (hv : Num w v ys) (hbx : xs.length ≤ 1099511627775) (hby : ys.length ≤ 1099511627775) :
    Calls Try.prog 108 #[u, v] w fun e w' => Made' w.heap.size w (lim (val xs + val ys)) e w' := by
  obtain ⟨ao, cap, rfl, hl1, hm1⟩ := hu.ao
  obtain ⟨bo, dap, rfl, hl2, hm2⟩ := hv.ao
  obtain ⟨iU, hiU, hzU0, hzU1, hzU2⟩ := info_parts Try.infoU
  obtain ⟨k, hk⟩ : ∃ k, k = xs.length := ⟨_, rfl⟩
  obtain ⟨m, hm⟩ : ∃ m, m = ys.length := ⟨_, rfl⟩
  rw [← hk] at hu hl1 hbx ⊢
  rw [← hm] at hv hl2 hby ⊢
  have HK : Hid (k = xs.length) := hk
  have HM : Hid (m = ys.length) := hm
  clear hk hm
  go_enter Try.func108, Try.ntmps108
  go_wp2
  go_loopw [5, 6, 7] (fun o cv t wr => ∃ (i c : Nat) (zs : List Nat), i ≤ max k m + 1 ∧ t = .int .i64 i ∧ cv = .int .u64 c ∧ c ≤ 1 ∧ (max k m < i → c = 0) ∧ zs.length = i ∧ Own w.heap.size 40 wr o zs ∧ Below w.heap.size w wr ∧ w.heap.size ≤ wr.heap.size ∧ val zs + 4294967296 ^ i * c = low xs i + low ys i) (fun _ _ t _ => max k m + 1 - (intOf t).toNat)
  case atStart => exact ⟨0, 0, [], Nat.zero_le _, rfl, rfl, by omega, fun _ => rfl, rfl, Own.of_nil _ _ _, Below.refl _ _, Nat.le_refl _, by simp [low_zero, val]⟩
  case round =>
    obtain ⟨i, c, zs, hin, rfl, rfl, hc1, hci, hzl, how, hbel, hB, hinv⟩ := hrel
    have HZ : Hid (zs.length = i) := hzl
    have HI : Hid (val zs + 4294967296 ^ i * c = low xs i + low ys i) := hinv
    clear hzl hinv
    have nu2 := hu.below (Nat.le_refl _) hbel
    have nv2 := hv.below (Nat.le_refl _) hbel
    have him : i ≤ 1099511627777 := by omega
    by_cases hgo : i < k ∨ i < m ∨ 0 < c
    · have him2 : i ≤ max k m := by
        rcases hgo with h | h | h
        · omega
        · omega
        · rcases Nat.lt_or_ge (max k m) i with h2 | h2
          · have := hci h2; omega
          · exact h2
      have HIM : Hid (i ≤ max k m) := him2
      have hx0 := limb_lt hu.1 i
      have hy0 := limb_lt hv.1 i
      obtain ⟨x, hx⟩ : ∃ x, x = xs.getD i 0 := ⟨_, rfl⟩
      obtain ⟨y, hy⟩ : ∃ y, y = ys.getD i 0 := ⟨_, rfl⟩
      have HX : Hid (x = xs.getD i 0) := hx
      have HY : Hid (y = ys.getD i 0) := hy
      rw [← hx] at hx0
      rw [← hy] at hy0
      have HC : Hid (max k m < i + 1 → (c + x + y) / 4294967296 = 0) := by
        intro h
        have h1 : x = 0 := by rw [hx]; exact getD_ge (by have := HK.out; omega)
        have h2 : y = 0 := by rw [hy]; exact getD_ge (by have := HM.out; omega)
        omega
      have three : (i < k) ∨ (¬ i < k ∧ i < m) ∨ (¬ i < k ∧ ¬ i < m ∧ 0 < c) := by omega
      clear hx hy hci him2 hgo
      have HO : Hid (wr.ownsRow w.heap.size 40 1 u5 i (zs.map U)) := by show _; rw [← HZ.out]; exact how.2
      have HU : Hid (U ((c + x + y) % 4294967296) = .int .u32 (((c : Int) + (x : Int) + (y : Int)) % 4294967296)) := by show _ = _; simp [U]
      have hB3 : w.heap.size ≤ (wr.alloc (.cells #[.int .u32 (((c : Int) + (x : Int) + (y : Int)) % 4294967296)] 40)).heap.size := by simp; omega
      rcases three with h1 | ⟨h1, h2⟩ | ⟨h1, h2, h3⟩
      all_goals
        first | have d1 := decide_eq_true h1 | have d1 := decide_eq_false h1
        try (first | have d2 := decide_eq_true h2 | have d2 := decide_eq_false h2)
        try have d3 : (0 : Int) < (c : Int) := Int.natCast_pos.2 h3
        go_wp2_with fail
        refine (limb_ref _ _ _ _ nu2 (by omega)).mono ?_
        rintro e w3 ⟨rfl, rfl⟩
        rw [Int.toNat_natCast, ← HX.out]
        go_wp2_with fail
        refine (limb_ref _ _ _ _ nv2 (by omega)).mono ?_
        rintro e w4 ⟨rfl, rfl⟩
        rw [Int.toNat_natCast, ← HY.out]
        clear nu2 nv2
        go_wp2_with (at_builtin; refine wpList_push _ rfl _ _ 23 rfl w.heap.size 40 iU (.int .u32 0) 4 Try.underlying23 hiU hzU0 hzU1 hzU2 rfl _ i (zs.map U) rfl (HO.out.alloc _) ⟨w4.heap.size, 0, none⟩ 1 1 [.int .u32 (((c : Int) + (x : Int) + (y : Int)) % 4294967296)] rfl rfl (cell_one_new _ _ _) (fun u hu => by simp at hu; subst hu; rfl) (by decide) (by unfold maxLen; omega) (by omega) hB3 ?_)
        intro v' w5 ho hgr _ _
        have R := push_own (d := (c + x + y) % 4294967296) how hbel hB (by omega) (by rw [HZ.out, HU.out]; exact ho) hgr
        clear ho hgr how hbel hB HO hB3
        go_wp2
        go_roundw
        case rel => exact ⟨i + 1, (c + x + y) / 4294967296, _, by have := HIM.out; omega, by go_num, by go_num, by omega, HC.out, by rw [List.length_append, HZ.out]; rfl, R.1, R.2.1, R.2.2, by rw [HX.out, HY.out]; exact add_push HZ.out HI.out⟩
        case measure => have := HIM.out; simp [intOf]; omega
    · have h1 : ¬ i < k := fun h => hgo (Or.inl h)
      have h2 : ¬ i < m := fun h => hgo (Or.inr (Or.inl h))
      have h3 : c = 0 := by omega
      subst h3
      have d1 := decide_eq_false h1
      have d2 := decide_eq_false h2
      have HF : Hid (val zs = val xs + val ys) := add_end (by rw [← HK.out]; omega) (by rw [← HM.out]; omega) HI.out
      have hzl2 : zs.length ≤ 1099511627776 := by rw [HZ.out]; omega
      clear hgo hci nu2 nv2
      go_wp2_with fail
      refine (norm_ref _ _ _ how.num (by omega)).mono ?_
      rintro e w3 ⟨v3, rfl, ho3, hb3⟩
      rw [HF.out] at ho3
      have ho4 := ho3.mono hB
      have hb4 := hbel.trans (hb3.mono hB)
      clear how ho3 hb3 hbel
      go_wp2
      go_ret
      exact ⟨_, rfl, ho4, hb4⟩
end Go.Proofs.Ytnlajeinegampaa
