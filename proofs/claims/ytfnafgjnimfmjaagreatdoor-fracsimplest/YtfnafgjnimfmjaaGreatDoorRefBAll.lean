/-
  Proved here: what the plain way's limb, Uint, Bits, Cmp and Sub answer.
  Proved here: what the plain way's Bit answers.
  Proved here: what the plain way's Shift answers.
  Proved here: when limbs are a number's normal ones. No condition.
  Proved here: what the plain way's double answers.
  Proved here: what the plain way's Cmp, Sub and Add answer.
-/
import Derived.Test.YtfnafgjnimfmjaaGreatDoorSubAll
import Derived.Deep.RegionHeld3
import Derived.Test.YtfnafgjnimfmjaaGreatDoorMulMathAll
namespace Go.Proofs.YtfnafgjnimfmjaaGreatDoor
open Go.RowKit

theorem limb_ref (v : Value) (xs : List Nat) (i : Int) (w : World) (h : Num w v xs) (hi : 0 ≤ i) :
    Calls Tryz.prog 142 #[v, .int .i64 i] w fun e w' => e = .returned (.int .u64 ((xs.getD i.toNat 0 : Nat) : Int)) ∧ w' = w := by
  obtain ⟨hb, ao, cap, rfl, hc, hm, hnil, hcell⟩ := h.open_
  clear h
  obtain ⟨k, rfl⟩ := Int.eq_ofNat_of_zero_le hi
  have hlt := limb_lt hb k
  by_cases hk : k < xs.length
  · obtain ⟨b, off, rfl, hc0⟩ := hcell k hk
    rw [Int.toNat_natCast]
    obtain ⟨x, hx⟩ : ∃ x, x = xs.getD k 0 := ⟨_, rfl⟩
    rw [← hx] at hc0 hlt ⊢
    clear hx hcell hnil hb
    go_enter Tryz.func142, Tryz.ntmps142
    go_wp2
    go_ret
    exact ⟨rfl, rfl⟩
  · have hg : xs.getD k 0 = 0 := by rw [List.getD_eq_getElem?_getD, List.getElem?_eq_none (by omega)]; rfl
    rw [Int.toNat_natCast, hg]
    clear hcell hnil hb hlt hg
    have hge : ¬ (k : Int) < ((xs.length : Nat) : Int) := by omega
    go_enter Tryz.func142, Tryz.ntmps142
    go_wp2
    go_ret
    exact ⟨rfl, rfl⟩

/-- What a teller that makes memory leaves. -/
def Told (B : Nat) (w : World) (v : Value) (en : Ending) (w' : World) : Prop := en = .returned v ∧ Below B w w'


set_option maxRecDepth 100000 in
set_option maxHeartbeats 800000 in
theorem bits_ref (v : Value) (xs : List Nat) (w : World) (h : Num w v xs) (hlen : xs.length ≤ 1099511627776) :
    Calls Tryz.prog 129 #[v] w fun e w' => Told w.heap.size w (.int .i64 (bl (val xs) : Nat)) e w' := by
  have hls := lim_short h
  go_enter Tryz.func129, Tryz.ntmps129
  go_wp2_with fail
  refine (norm_ref _ _ _ h hlen).mono ?_
  rintro e w1 ⟨v1, rfl, ho, hb⟩
  obtain ⟨ao, cap, rfl, hao, hl1, hm1⟩ := ho.ao
  by_cases h0 : val xs = 0
  · have hk0 : (lim (val xs)).length = 0 := by rw [h0, lim_zero]; rfl
    have HB : Hid (bl (val xs) = 0) := by show _ = _; rw [h0]; rfl
    rw [hk0]
    clear hk0 ho h0 hao hls h
    go_wp2
    go_ret
    exact ⟨by rw [HB.out]; rfl, hb⟩
  · obtain ⟨m, t, e1, e2, ht, ht2, e3⟩ := lim_last h0
    obtain ⟨_, aox, capx, ex, _, _, _, cx⟩ := ho.num.open_
    simp only [Value.slice.injEq] at ex
    obtain ⟨rfl, hq1, rfl⟩ := ex
    obtain ⟨b, off, rfl, hc0⟩ := cx m (by omega)
    rw [e2] at hc0
    have HB : Hid (bl (val xs) = 32 * m + bl t) := e3
    have hb32 := bl_le32 ht2
    have hm3 : m ≤ 1099511627776 := by omega
    rw [e1]
    clear e1 e2 e3 hq1 cx ho h0 hao hls h hl1
    have hkf : (((m + 1 : Nat) : Int) == 0) = false := by simp; omega
    go_wp2
    go_loop [4, 5] (fun n tv => ∃ (N T : Nat), n = .int .i64 N ∧ tv = .int .u32 T ∧ T < 4294967296 ∧ N + bl T = 32 * m + bl t) (fun _ tv => (intOf tv).toNat)
    case atStart => exact ⟨32 * m, t, by go_num, rfl, ht2, rfl⟩
    case round =>
      obtain ⟨N, T, rfl, rfl, hT, hinv⟩ := hrel
      by_cases hT0 : 0 < T
      · have hgt : (0 : Int) < (T : Int) := by omega
        have hh := bl_half (t := T) (by omega)
        have HN : Hid (N + 1 + bl (T / 2) = 32 * m + bl t) := by show _ = _; omega
        have hNb : N ≤ 35184372088864 := by omega
        clear hh hinv
        go_wp2
        go_round
        case rel => exact ⟨N + 1, T / 2, by go_num, by go_num, by omega, HN.out⟩
        case measure => simp [intOf]; omega
      · have hT1 : T = 0 := by omega
        subst hT1
        have HN : Hid (N = bl (val xs)) := by show _ = _; rw [HB.out]; rw [bl_zero] at hinv; omega
        clear hinv
        go_wp2
        go_ret
        exact ⟨by rw [HN.out]; rfl, hb⟩
end Go.Proofs.YtfnafgjnimfmjaaGreatDoor

namespace Go.Proofs.YtfnafgjnimfmjaaGreatDoor
open Go.RowKit

set_option maxRecDepth 100000 in
theorem bit_ref (v : Value) (xs : List Nat) (i : Int) (w : World) (h : Num w v xs) (hi : 0 ≤ i) (hi2 : i ≤ 1000000) :
    Calls Tryz.prog 130 #[v, .int .i64 i] w fun e w' => e = .returned (.int .u32 ((val xs / 2 ^ i.toNat % 2 : Nat) : Int)) ∧ w' = w := by
  obtain ⟨k, rfl⟩ := Int.eq_ofNat_of_zero_le hi
  rw [Int.toNat_natCast]
  obtain ⟨q, hq⟩ : ∃ q, q = k / 32 := ⟨_, rfl⟩
  obtain ⟨r, hr⟩ : ∃ r, r = k % 32 := ⟨_, rfl⟩
  have e1 : (k : Int) / 32 = (q : Int) := by omega
  have e2 : (k : Int) % 32 = (r : Int) := by omega
  have hr1 : r < 32 := by omega
  have hq1 : q ≤ 31250 := by omega
  have hx0 := limb_lt h.1 q
  have hbd := bit_digit h.1 q r hr1
  rw [show 32 * q + r = k by omega] at hbd
  obtain ⟨x, hx⟩ : ∃ x, x = xs.getD q 0 := ⟨_, rfl⟩
  rw [← hx] at hx0 hbd
  obtain ⟨D, hD⟩ : ∃ D, D = x / 2 ^ r := ⟨_, rfl⟩
  have eD : (x : Int) / 2 ^ r = (D : Int) := by rw [hD]; simp
  have hD1 : D < 4294967296 := by rw [hD]; exact Nat.lt_of_le_of_lt (Nat.div_le_self _ _) hx0
  have HF : Hid (val xs / 2 ^ k % 2 = D % 2) := by show _ = _; rw [← hbd, hD]
  have HX : Hid (x = xs.getD q 0) := hx
  clear hq hr hx hD hbd
  go_enter Tryz.func130, Tryz.ntmps130
  go_wp2_with fail
  refine (limb_ref _ _ _ _ h (by omega)).mono ?_
  rintro e w2 ⟨rfl, rfl⟩
  rw [Int.toNat_natCast, ← HX.out]
  clear h
  go_wp2
  go_ret
  exact ⟨by rw [HF.out]; rfl, rfl⟩
end Go.Proofs.YtfnafgjnimfmjaaGreatDoor

namespace Go.Proofs.YtfnafgjnimfmjaaGreatDoor
open Go.RowKit

theorem bl_lt (v : Nat) : v < 2 ^ bl v := by
  by_cases h : v = 0
  · subst h; decide
  · obtain ⟨m, e, _, h2⟩ := bl_bounds h
    rw [e]; exact h2
end Go.Proofs.YtfnafgjnimfmjaaGreatDoor

namespace Go.Proofs.YtfnafgjnimfmjaaGreatDoor

/-- Limbs whose highest one is none of 0. -/
theorem lim_of_ge {zs : List Nat} (h : limbs zs) {n : Nat} (hn : zs.length = n + 1) (hv : 4294967296 ^ n ≤ val zs) : lim (val zs) = zs := by
  apply lim_of_last h
  intro hne
  have e := low_succ zs n
  rw [low_all (by omega)] at e
  have hl := low_lt h n
  have : zs.getD n 0 ≠ 0 := by intro h0; rw [h0, Nat.mul_zero] at e; omega
  rw [List.getLast_eq_getElem]
  rw [List.getD_eq_getElem?_getD, List.getElem?_eq_getElem (by omega)] at this
  simpa [hn] using this
theorem lim_snoc {zs : List Nat} (h : limbs zs) {d : Nat} (hd : d < 4294967296) (h0 : d ≠ 0) : lim (val zs + 4294967296 ^ zs.length * d) = zs ++ [d] := by
  rw [← val_snoc]
  exact lim_of_last (limbs_snoc h hd) fun _ => by simpa using h0
theorem lim_ge {v n : Nat} (h : (lim v).length = n + 1) : 4294967296 ^ n ≤ v := by
  rcases Nat.lt_or_ge v (4294967296 ^ n) with h1 | h1
  · have := lim_len_le h1; omega
  · exact h1
end Go.Proofs.YtfnafgjnimfmjaaGreatDoor

namespace Go.Proofs.YtfnafgjnimfmjaaGreatDoor
open Go.RowKit

theorem double_step {xs ys : List Nat} {k c d : Nat} (hk : ys.length = k) (h : val ys + 4294967296 ^ k * c = 2 * low xs k + d) :
    val (ys ++ [(c + 2 * xs.getD k 0) % 4294967296]) + 4294967296 ^ (k + 1) * ((c + 2 * xs.getD k 0) / 4294967296) = 2 * low xs (k + 1) + d := by
  rw [val_snoc, hk, low_succ xs k, Nat.pow_succ, Nat.add_assoc, carry_eq, Nat.mul_add, Nat.mul_add, Nat.mul_left_comm 2]
  omega
/-- What double leaves. -/
def DblEnd (w : World) (xs : List Nat) (d : Nat) (e : Ending) (w' : World) : Prop :=
  ∃ u zs, e = .returned u ∧ Own w.heap.size 37 w' u zs ∧ val zs = 2 * val xs + d ∧ zs.length ≤ xs.length + 1 ∧ (xs = lim (val xs) → zs = lim (2 * val xs + d)) ∧ Below w.heap.size w w'

set_option maxRecDepth 100000 in
set_option maxHeartbeats 3200000 in
theorem double_ref (u : Value) (xs : List Nat) (d : Nat) (w : World) (h : Num w u xs) (hlen : xs.length ≤ 1000000) (hd : d ≤ 1) :
    Calls Tryz.prog 128 #[u, .int .u32 (d : Int)] w fun e w' => DblEnd w xs d e w' := by
  obtain ⟨hbx, ao, cap, rfl, hca, hma, _, hcell⟩ := h.open_
  obtain ⟨iU, hiU, hzU0, hzU1, hzU2⟩ := info_parts Tryz.infoU
  obtain ⟨n, hn⟩ : ∃ n, n = xs.length := ⟨_, rfl⟩
  rw [← hn] at hlen hca ⊢
  have HN : Hid (n = xs.length) := hn
  clear hn h
  go_enter Tryz.func128, Tryz.ntmps128
  go_wp2
  go_loopw [5, 6, 7] (fun yv cv kv wq => ∃ (k r : Nat) (ys : List Nat), k ≤ n ∧ kv = .int .i64 k ∧ cv = .int .u64 r ∧ r ≤ 1 ∧ ys.length = k ∧ Own w.heap.size 37 wq yv ys ∧ Below w.heap.size w wq ∧ val ys + 4294967296 ^ k * r = 2 * low xs k + d) (fun _ _ kv _ => n - (intOf kv).toNat)
  case atStart => exact ⟨0, d, [], Nat.zero_le _, rfl, rfl, hd, rfl, Own.of_nil _ _ _, Below.refl _ _, by simp [low_zero, val]⟩
  case round =>
    obtain ⟨k, r, ys, hk, rfl, rfl, hr1, hyl, hoy, hbq, hinv⟩ := hrel
    have HY : Hid (ys.length = k) := hyl
    have HI : Hid (val ys + 4294967296 ^ k * r = 2 * low xs k + d) := hinv
    have hB : w.heap.size ≤ wr.heap.size := hbq.size
    clear hyl hinv
    by_cases hkn : k < n
    · have hkn' : (k : Int) < (n : Int) := by omega
      obtain ⟨bb, bo, rfl, hx1⟩ := hcell k (by rw [← HN.out]; exact hkn)
      have cx : wr.cell? ⟨bb, bo + k, none⟩ = some (.int .u32 ((xs.getD k 0 : Nat) : Int)) := by rw [hbq.cell (p := ⟨bb, bo + k, none⟩) (block_lt_of_cell hx1)]; exact hx1
      have hx0 := limb_lt hbx k
      obtain ⟨x, hx⟩ : ∃ x, x = xs.getD k 0 := ⟨_, rfl⟩
      rw [← hx] at cx hx0
      obtain ⟨T, hT⟩ : ∃ T, T = r + 2 * x := ⟨_, rfl⟩
      have eT : (r : Int) + 2 * (x : Int) = (T : Int) := by omega
      have hTb : T ≤ 8589934591 := by omega
      obtain ⟨L, hL⟩ : ∃ L, L = T % 4294967296 := ⟨_, rfl⟩
      have eL : (T : Int) % 4294967296 = (L : Int) := by omega
      have hLb : L < 4294967296 := by omega
      obtain ⟨H, hH⟩ : ∃ H, H = T / 4294967296 := ⟨_, rfl⟩
      have eH : (T : Int) / 4294967296 = (H : Int) := by omega
      have hHb : H ≤ 1 := by omega
      have HT : Hid (L = (r + 2 * xs.getD k 0) % 4294967296 ∧ H = (r + 2 * xs.getD k 0) / 4294967296) := by rw [← hx, ← hT]; exact ⟨hL, hH⟩
      have HO : Hid (wr.ownsRow w.heap.size 37 1 u5 k (ys.map U)) := by show _; rw [← HY.out]; exact hoy.2
      clear hx hT hL hH hx1 hcell
      have hB3 : w.heap.size ≤ (wr.alloc (.cells #[.int .u32 (L : Int)] 37)).heap.size := by simp; omega
      go_wp2_with (at_builtin; refine wpList_push _ rfl _ _ 23 rfl w.heap.size 37 iU (.int .u32 0) 4 Tryz.underlying23 hiU hzU0 hzU1 hzU2 rfl _ k (ys.map U) rfl (HO.out.alloc _) ⟨wr.heap.size, 0, none⟩ 1 1 [.int .u32 (L : Int)] rfl rfl (cell_one_new _ _ _) (fun u hu => by simp at hu; subst hu; rfl) (by decide) (by unfold maxLen; omega) (by omega) hB3 ?_)
      intro v' w5 ho hgr _ _
      have R := push_own (d := L) hoy hbq hB hLb (by rw [HY.out, show U L = .int .u32 (L : Int) from rfl]; exact ho) hgr
      clear ho hgr hoy hbq hB HO hB3 cx
      go_wp2
      go_roundw
      case rel =>
        refine ⟨k + 1, H, ys ++ [L], by omega, by go_num, rfl, hHb, by rw [List.length_append, HY.out]; rfl, R.1, R.2.1, ?_⟩
        rw [HT.out.1, HT.out.2]
        exact double_step HY.out HI.out
      case measure => simp [intOf]; omega
    · have hkn' : ¬ (k : Int) < (n : Int) := by omega
      have hkn2 : k = n := by omega
      subst hkn2
      have hI := HI.out
      rw [low_all (xs := xs) (by rw [← HN.out]; exact Nat.le_refl _)] at hI
      clear hcell
      by_cases hr0 : r = 0
      · subst hr0
        have hr0' : ¬ (0 : Int) < ((0 : Nat) : Int) := by omega
        rw [Nat.mul_zero, Nat.add_zero] at hI
        have HE : Hid (DblEnd w xs d (.returned u5) wr) := by
          refine ⟨u5, ys, rfl, hoy, hI, by rw [HY.out, HN.out]; omega, fun hnorm => ?_, hbq⟩
          rw [← hI]
          rcases Nat.eq_zero_or_pos k with h0 | h0
          · have : ys = [] := List.eq_nil_of_length_eq_zero (by rw [HY.out, h0])
            rw [this]; rfl
          · obtain ⟨m, hm⟩ : ∃ m, k = m + 1 := ⟨k - 1, by omega⟩
            refine (lim_of_ge hoy.1 (by rw [HY.out, hm]) ?_).symm
            have h3 : 4294967296 ^ m ≤ val xs := lim_ge (by rw [← hnorm, ← HN.out, hm])
            omega
        clear hI hoy hbq
        go_wp2_with fail
        go_ret
        exact HE.out
      · have hr0' : (0 : Int) < (r : Int) := by omega
        have hr32 : r < 4294967296 := by omega
        have HO : Hid (wr.ownsRow w.heap.size 37 1 u5 k (ys.map U)) := by show _; rw [← HY.out]; exact hoy.2
        have hB3 : w.heap.size ≤ (wr.alloc (.cells #[.int .u32 (r : Int)] 37)).heap.size := by simp; omega
        have HI2 : Hid (val ys + 4294967296 ^ k * r = 2 * val xs + d) := hI
        clear hI
        go_wp2_with (at_builtin; refine wpList_push _ rfl _ _ 23 rfl w.heap.size 37 iU (.int .u32 0) 4 Tryz.underlying23 hiU hzU0 hzU1 hzU2 rfl _ k (ys.map U) rfl (HO.out.alloc _) ⟨wr.heap.size, 0, none⟩ 1 1 [.int .u32 (r : Int)] rfl rfl (cell_one_new _ _ _) (fun u hu => by simp at hu; subst hu; rfl) (by decide) (by unfold maxLen; omega) (by omega) hB3 ?_)
        intro v' w5 ho hgr _ _
        have R := push_own (d := r) hoy hbq hB hr32 (by rw [HY.out, show U r = .int .u32 (r : Int) from rfl]; exact ho) hgr
        have HE : Hid (DblEnd w xs d (.returned v') w5) := by
          refine ⟨v', ys ++ [r], rfl, R.1, by rw [val_snoc, HY.out]; exact HI2.out, by rw [List.length_append, HY.out, HN.out]; exact Nat.le_refl _, fun _ => ?_, R.2.1⟩
          rw [← HI2.out]
          have := lim_snoc hoy.1 hr32 hr0
          rw [HY.out] at this
          exact this.symm
        clear ho hgr hoy hbq hB HO hB3 R
        go_wp2_with fail
        go_ret
        exact HE.out
end Go.Proofs.YtfnafgjnimfmjaaGreatDoor

namespace Go.Proofs.YtfnafgjnimfmjaaGreatDoor
open Go.RowKit

set_option maxRecDepth 100000 in
set_option maxHeartbeats 1600000 in
theorem cmp_ref (u v : Value) (xs ys : List Nat) (w : World) (hu : Num w u xs) (hv : Num w v ys) (hbx : xs.length ≤ 1099511627776) (hby : ys.length ≤ 1099511627776) :
    Calls Tryz.prog 127 #[u, v] w fun e w' => e = .returned (.int .i64 (cmpN (val xs) (val ys))) ∧ w' = w := by
  obtain ⟨ao, cap, rfl, hl1, hm1⟩ := hu.ao
  obtain ⟨bo, dap, rfl, hl2, hm2⟩ := hv.ao
  obtain ⟨k, hk⟩ : ∃ k, k = xs.length := ⟨_, rfl⟩
  obtain ⟨m, hm⟩ : ∃ m, m = ys.length := ⟨_, rfl⟩
  rw [← hk] at hu hl1 hbx ⊢
  rw [← hm] at hv hl2 hby ⊢
  have HK : Hid (k = xs.length) := hk
  have HM : Hid (m = ys.length) := hm
  clear hk hm
  have pre : ∃ n : Nat, k ≤ n ∧ m ≤ n ∧ n ≤ 1099511627776 ∧ ((k < m ∧ n = m) ∨ (¬ k < m ∧ n = k)) := by
    by_cases h : k < m
    · exact ⟨m, by omega, by omega, by omega, Or.inl ⟨h, rfl⟩⟩
    · exact ⟨k, by omega, by omega, by omega, Or.inr ⟨h, rfl⟩⟩
  obtain ⟨n, hn1, hn2, hn3, hcase⟩ := pre
  rcases hcase with ⟨hkm, hn⟩ | ⟨hkm, hn⟩
  all_goals
    have HNN : Hid (n = _) := hn
    clear hn
    go_enter Tryz.func127, Tryz.ntmps127
    go_wp2
    go_loop [6] (fun t => ∃ i : Nat, i ≤ n ∧ t = .int .i64 ((i : Int) - 1) ∧ (∀ j, i ≤ j → xs.getD j 0 = ys.getD j 0)) (fun t => (intOf t + 1).toNat)
    case atStart => exact ⟨n, Nat.le_refl _, by rw [HNN.out], fun j hj => by rw [getD_ge (by have := HK.out; omega), getD_ge (by have := HM.out; omega)]⟩
    case round =>
      obtain ⟨i, hi, rfl, hz⟩ := hrel
      have HZ : Hid (∀ j, i ≤ j → xs.getD j 0 = ys.getD j 0) := hz
      clear hz
      by_cases hi0 : 0 < i
      · have hge : (0 : Int) ≤ (i : Int) - 1 := by omega
        have hx0 := limb_lt hu.1 (i - 1)
        have hy0 := limb_lt hv.1 (i - 1)
        have ei : ((i : Int) - 1).toNat = i - 1 := by omega
        obtain ⟨x, hx⟩ : ∃ x, x = xs.getD (i - 1) 0 := ⟨_, rfl⟩
        obtain ⟨y, hy⟩ : ∃ y, y = ys.getD (i - 1) 0 := ⟨_, rfl⟩
        have HX : Hid (x = xs.getD (i - 1) 0) := hx
        have HY : Hid (y = ys.getD (i - 1) 0) := hy
        have HEI : Hid (((i : Int) - 1).toNat = i - 1) := ei
        rw [← hx] at hx0
        rw [← hy] at hy0
        clear hx hy ei
        go_wp2_with fail
        refine (limb_ref _ _ _ _ hu (by omega)).mono ?_
        rintro e w2 ⟨rfl, rfl⟩
        rw [HEI.out, ← HX.out]
        go_wp2_with fail
        refine (limb_ref _ _ _ _ hv (by omega)).mono ?_
        rintro e w3 ⟨rfl, rfl⟩
        rw [HEI.out, ← HY.out]
        have top : ∀ j, i - 1 < j → xs.getD j 0 = ys.getD j 0 := fun j hj => HZ.out j (by omega)
        have HT : Hid (∀ j, i - 1 < j → xs.getD j 0 = ys.getD j 0) := top
        clear top
        by_cases h1 : x < y
        · have HR : Hid (cmpN (val xs) (val ys) = -1) := cmpN_lt (val_lt_top (i - 1) hu.1 hv.1 HT.out (by rw [← HX.out, ← HY.out]; exact h1))
          have h1' : (x : Int) < (y : Int) := by omega
          clear hu hv
          go_wp2
          go_ret
          exact ⟨by rw [HR.out]; rfl, rfl⟩
        · have h1' : ¬ (x : Int) < (y : Int) := by omega
          by_cases h2 : y < x
          · have HR : Hid (cmpN (val xs) (val ys) = 1) := cmpN_gt (val_lt_top (i - 1) hv.1 hu.1 (fun j hj => (HT.out j hj).symm) (by rw [← HX.out, ← HY.out]; exact h2))
            have h2' : (y : Int) < (x : Int) := by omega
            clear hu hv
            go_wp2
            go_ret
            exact ⟨by rw [HR.out]; rfl, rfl⟩
          · have h2' : ¬ (y : Int) < (x : Int) := by omega
            go_wp2
            go_round
            case rel =>
              refine ⟨i - 1, by omega, by congr 1; omega, fun j hj => ?_⟩
              by_cases hj2 : j = i - 1
              · rw [hj2, ← HX.out, ← HY.out]; omega
              · exact HZ.out j (by omega)
            case measure => simp [intOf]; omega
      · have hi1 : i = 0 := by omega
        subst hi1
        have HR : Hid (cmpN (val xs) (val ys) = 0) := by
          show _ = _
          rw [val_congr n (by have := HK.out; omega) (by have := HM.out; omega) (fun j => HZ.out j (by omega))]
          exact cmpN_eq _
        clear hu hv
        go_wp2
        go_ret
        exact ⟨by rw [HR.out]; rfl, rfl⟩

theorem low_mod {ys : List Nat} (h : limbs ys) (n : Nat) : low ys n = val ys % 4294967296 ^ n := by
  have h1 := low_lt h n
  rcases Nat.lt_or_ge n ys.length with hn | hn
  · conv => rhs; rw [val_split ys n (by omega), Nat.add_mul_mod_self_left, Nat.mod_eq_of_lt h1]
  · rw [low_all hn] at h1 ⊢
    rw [Nat.mod_eq_of_lt h1]

theorem sub_done {xs ys zs : List Nat} {b : Nat} (hx : limbs xs) (hy : limbs ys) (hz : limbs zs) (hzl : zs.length = xs.length) (hle : val ys ≤ val xs) (h : low xs xs.length + 4294967296 ^ xs.length * b = low ys xs.length + val zs) : val zs = val xs - val ys := by
  have h1 := val_lt hx
  have h2 := val_lt hz
  rw [low_all (Nat.le_refl _), low_mod hy, Nat.mod_eq_of_lt (by omega)] at h
  rw [hzl] at h2
  rcases Nat.eq_zero_or_pos b with hb | hb
  · subst hb; omega
  · have := Nat.mul_le_mul_left (4294967296 ^ xs.length) hb
    omega
theorem sub_step {xs ys zs : List Nat} {i b b' d : Nat} (hzl : zs.length = i) (h : low xs i + 4294967296 ^ i * b = low ys i + val zs) (hd : xs.getD i 0 + 4294967296 * b' = ys.getD i 0 + b + d) :
    low xs (i + 1) + 4294967296 ^ (i + 1) * b' = low ys (i + 1) + val (zs ++ [d]) := by
  rw [val_snoc, low_succ, low_succ, hzl, Nat.pow_succ]
  have e : 4294967296 ^ i * (xs.getD i 0 + 4294967296 * b') = 4294967296 ^ i * (ys.getD i 0 + b + d) := by rw [hd]
  rw [Nat.mul_add, Nat.mul_add, Nat.mul_add, ← Nat.mul_assoc] at e
  omega
theorem add_push {xs ys zs : List Nat} {i c : Nat} (hzl : zs.length = i) (h : val zs + 4294967296 ^ i * c = low xs i + low ys i) :
    val (zs ++ [(c + xs.getD i 0 + ys.getD i 0) % 4294967296]) + 4294967296 ^ (i + 1) * ((c + xs.getD i 0 + ys.getD i 0) / 4294967296) = low xs (i + 1) + low ys (i + 1) := by
  rw [val_snoc, low_succ, low_succ, Nat.pow_succ, hzl]
  have := carry_eq (4294967296 ^ i) (c + xs.getD i 0 + ys.getD i 0)
  rw [Nat.mul_add, Nat.mul_add] at this
  omega


set_option maxRecDepth 100000 in
set_option maxHeartbeats 1600000 in
theorem sub_ref_yes (u v : Value) (xs ys : List Nat) (w : World) (hu : Num w u xs) (hv : Num w v ys) (hbx : xs.length ≤ 1099511627776) (hby : ys.length ≤ 1099511627776) (hle : val ys ≤ val xs) :
    Calls Tryz.prog 124 #[u, v] w fun e w' => SubEnd w.heap.size w (lim (val xs - val ys)) e w' := by
  obtain ⟨ao, cap, rfl, hl1, hm1⟩ := hu.ao
  obtain ⟨bo, dap, rfl, hl2, hm2⟩ := hv.ao
  obtain ⟨iU, hiU, hzU0, hzU1, hzU2⟩ := info_parts Tryz.infoU
  go_enter Tryz.func124, Tryz.ntmps124
  go_wp2_with fail
  refine (cmp_ref _ _ _ _ _ hu hv hbx hby).mono ?_
  rintro e w1 ⟨rfl, rfl⟩
  have hnl : ¬ cmpN (val xs) (val ys) < 0 := by rcases cmpN_cases (val xs) (val ys) with h | h | h <;> omega
  obtain ⟨c, hc⟩ : ∃ c, c = cmpN (val xs) (val ys) := ⟨_, rfl⟩
  rw [← hc] at hnl ⊢
  clear hc
  obtain ⟨n, hn⟩ : ∃ n, n = xs.length := ⟨_, rfl⟩
  rw [← hn] at hu hl1 hbx ⊢
  have HN : Hid (n = xs.length) := hn
  have HLE : Hid (val ys ≤ val xs) := hle
  clear hn hle
  go_wp2
  go_loopw [6, 7, 8] (fun o bv t wr => ∃ (i b : Nat) (zs : List Nat), i ≤ n ∧ t = .int .i64 i ∧ bv = .int .u64 b ∧ b ≤ 1 ∧ zs.length = i ∧ Own w1.heap.size 37 wr o zs ∧ Below w1.heap.size w1 wr ∧ w1.heap.size ≤ wr.heap.size ∧ low xs i + 4294967296 ^ i * b = low ys i + val zs) (fun _ _ t _ => n - (intOf t).toNat)
  case atStart => exact ⟨0, 0, [], Nat.zero_le _, rfl, rfl, by omega, rfl, Own.of_nil _ _ _, Below.refl _ _, Nat.le_refl _, by simp [low_zero, val]⟩
  case round =>
    obtain ⟨i, b, zs, hin, rfl, rfl, hb1, hzl, how, hbel, hB, hinv⟩ := hrel
    have HZ : Hid (zs.length = i) := hzl
    have HI : Hid (low xs i + 4294967296 ^ i * b = low ys i + val zs) := hinv
    clear hzl hinv
    have nu2 := hu.below (Nat.le_refl _) hbel
    have nv2 := hv.below (Nat.le_refl _) hbel
    by_cases hlt : i < n
    · have hlt' : (i : Int) < (n : Int) := by omega
      have hx0 := limb_lt hu.1 i
      have hy0 := limb_lt hv.1 i
      obtain ⟨x, hx⟩ : ∃ x, x = xs.getD i 0 := ⟨_, rfl⟩
      obtain ⟨y, hy⟩ : ∃ y, y = ys.getD i 0 := ⟨_, rfl⟩
      have HX : Hid (x = xs.getD i 0) := hx
      have HY : Hid (y = ys.getD i 0) := hy
      rw [← hx] at hx0
      rw [← hy] at hy0
      clear hx hy
      go_wp2_with fail
      refine (limb_ref _ _ _ _ nu2 (by omega)).mono ?_
      rintro e w3 ⟨rfl, rfl⟩
      rw [Int.toNat_natCast, ← HX.out]
      go_wp2_with fail
      refine (limb_ref _ _ _ _ nv2 (by omega)).mono ?_
      rintro e w4 ⟨rfl, rfl⟩
      rw [Int.toNat_natCast, ← HY.out]
      clear nu2 nv2
      have HO : Hid (w4.ownsRow w1.heap.size 37 1 u6 i (zs.map U)) := by show _; rw [← HZ.out]; exact how.2
      by_cases hxy : x < y + b
      · have hxy' : (x : Int) < (y : Int) + (b : Int) := by omega
        have hB3 : w1.heap.size ≤ (w4.alloc (.cells #[.int .u32 ((x : Int) + 4294967296 - ((y : Int) + (b : Int)))] 37)).heap.size := by simp; omega
        go_wp2_with (at_builtin; refine wpList_push _ rfl _ _ 23 rfl w1.heap.size 37 iU (.int .u32 0) 4 Tryz.underlying23 hiU hzU0 hzU1 hzU2 rfl _ i (zs.map U) rfl (HO.out.alloc _) ⟨w4.heap.size, 0, none⟩ 1 1 [.int .u32 ((x : Int) + 4294967296 - ((y : Int) + (b : Int)))] rfl rfl (cell_one_new _ _ _) (fun u hu => by simp at hu; subst hu; rfl) (by decide) (by unfold maxLen; omega) (by omega) hB3 ?_)
        intro v' w5 ho hgr _ _
        have R := push_own (d := x + 4294967296 - (y + b)) how hbel hB (by omega) (by rw [HZ.out, show U (x + 4294967296 - (y + b)) = .int .u32 ((x : Int) + 4294967296 - ((y : Int) + (b : Int))) by unfold U; congr 1; omega]; exact ho) hgr
        clear ho hgr how hbel hB HO hB3
        go_wp2
        go_roundw
        case rel => exact ⟨i + 1, 1, _, by omega, by go_num, rfl, by omega, by rw [List.length_append, HZ.out]; rfl, R.1, R.2.1, R.2.2, sub_step HZ.out HI.out (by rw [← HX.out, ← HY.out]; omega)⟩
        case measure => simp [intOf]; omega
      · have hxy' : ¬ (x : Int) < (y : Int) + (b : Int) := by omega
        have hB3 : w1.heap.size ≤ (w4.alloc (.cells #[.int .u32 ((x : Int) - ((y : Int) + (b : Int)))] 37)).heap.size := by simp; omega
        go_wp2_with (at_builtin; refine wpList_push _ rfl _ _ 23 rfl w1.heap.size 37 iU (.int .u32 0) 4 Tryz.underlying23 hiU hzU0 hzU1 hzU2 rfl _ i (zs.map U) rfl (HO.out.alloc _) ⟨w4.heap.size, 0, none⟩ 1 1 [.int .u32 ((x : Int) - ((y : Int) + (b : Int)))] rfl rfl (cell_one_new _ _ _) (fun u hu => by simp at hu; subst hu; rfl) (by decide) (by unfold maxLen; omega) (by omega) hB3 ?_)
        intro v' w5 ho hgr _ _
        have R := push_own (d := x - (y + b)) how hbel hB (by omega) (by rw [HZ.out, show U (x - (y + b)) = .int .u32 ((x : Int) - ((y : Int) + (b : Int))) by unfold U; congr 1; omega]; exact ho) hgr
        clear ho hgr how hbel hB HO hB3
        go_wp2
        go_roundw
        case rel => exact ⟨i + 1, 0, _, by omega, by go_num, rfl, by omega, by rw [List.length_append, HZ.out]; rfl, R.1, R.2.1, R.2.2, sub_step HZ.out HI.out (by rw [← HX.out, ← HY.out]; omega)⟩
        case measure => simp [intOf]; omega
    · have hlt' : ¬ (i : Int) < (n : Int) := by omega
      have hin' : i = n := by omega
      have HF : Hid (val zs = val xs - val ys) := by
        have h1 := HI.out
        rw [hin', HN.out] at h1
        exact sub_done hu.1 hv.1 how.1 (by rw [HZ.out, hin']; exact HN.out) HLE.out h1
      have hzl2 : zs.length ≤ 1099511627776 := by rw [HZ.out]; omega
      clear hin' nu2 nv2
      go_wp2_with fail
      refine (norm_ref _ _ _ how.num hzl2).mono ?_
      rintro e w3 ⟨v3, rfl, ho3, hb3⟩
      rw [HF.out] at ho3
      have ho4 := ho3.mono hB
      have hb4 := hbel.trans (hb3.mono hB)
      clear how ho3 hb3 hbel
      go_wp2
      go_ret2
      exact ⟨_, rfl, ho4, hb4⟩
end Go.Proofs.YtfnafgjnimfmjaaGreatDoor
