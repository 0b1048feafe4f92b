/-
  Proved here: what the plain way's limb, Uint, Bits, Cmp and Sub answer.
  Proved here: what the plain way's Bit answers.
  Proved here: what the plain way's Shift answers.
  Proved here: when limbs are a number's normal ones. No condition.
  Proved here: what the plain way's double answers.
-/
import Derived.Test.YtaafijifiiiblaaGreatBitsAll
import Derived.Test.YtaafijifiiiblaaGreatSubAll
import Derived.Deep.RegionHeld3
import Derived.Test.YtaafijifiiiblaaGreatSmallAll
namespace Go.Proofs.YtaafijifiiiblaaGreat
open Go.RowKit

theorem limb_ref (v : Value) (xs : List Nat) (i : Int) (w : World) (h : Num w v xs) (hi : 0 ≤ i) :
    Calls Tryz.prog 129 #[v, .int .i64 i] w fun e w' => e = .returned (.int .u64 ((xs.getD i.toNat 0 : Nat) : Int)) ∧ w' = w := by
  obtain ⟨hb, ao, cap, rfl, hc, hm, hnil, hcell⟩ := h.open_
  clear h
  obtain ⟨k, rfl⟩ := Int.eq_ofNat_of_zero_le hi
  have hlt := limb_lt hb k
  by_cases hk : k < xs.length
  · obtain ⟨b, off, rfl, hc0⟩ := hcell k hk
    rw [Int.toNat_natCast]
    obtain ⟨x, hx⟩ : ∃ x, x = xs.getD k 0 := ⟨_, rfl⟩
    rw [← hx] at hc0 hlt ⊢
    clear hx hcell hnil hb
    go_enter Tryz.func129, Tryz.ntmps129
    go_wp2
    go_ret
    exact ⟨rfl, rfl⟩
  · have hg : xs.getD k 0 = 0 := by rw [List.getD_eq_getElem?_getD, List.getElem?_eq_none (by omega)]; rfl
    rw [Int.toNat_natCast, hg]
    clear hcell hnil hb hlt hg
    have hge : ¬ (k : Int) < ((xs.length : Nat) : Int) := by omega
    go_enter Tryz.func129, Tryz.ntmps129
    go_wp2
    go_ret
    exact ⟨rfl, rfl⟩

/-- What a teller that makes memory leaves. -/
def Told (B : Nat) (w : World) (v : Value) (en : Ending) (w' : World) : Prop := en = .returned v ∧ Below B w w'


set_option maxRecDepth 100000 in
set_option maxHeartbeats 800000 in
theorem bits_ref (v : Value) (xs : List Nat) (w : World) (h : Num w v xs) (hlen : xs.length ≤ 1099511627776) :
    Calls Tryz.prog 127 #[v] w fun e w' => Told w.heap.size w (.int .i64 (bl (val xs) : Nat)) e w' := by
  have hls := lim_short h
  go_enter Tryz.func127, Tryz.ntmps127
  go_wp2_with fail
  refine (norm_ref _ _ _ h hlen).mono ?_
  rintro e w1 ⟨v1, rfl, ho, hb⟩
  obtain ⟨ao, cap, rfl, hao, hl1, hm1⟩ := ho.ao
  by_cases h0 : val xs = 0
  · have hk0 : (lim (val xs)).length = 0 := by rw [h0, lim_zero]; rfl
    have HB : Hid (bl (val xs) = 0) := by show _ = _; rw [h0]; rfl
    rw [hk0]
    clear hk0 ho h0 hao hls h
    go_wp2
    go_ret
    exact ⟨by rw [HB.out]; rfl, hb⟩
  · obtain ⟨m, t, e1, e2, ht, ht2, e3⟩ := lim_last h0
    obtain ⟨_, aox, capx, ex, _, _, _, cx⟩ := ho.num.open_
    simp only [Value.slice.injEq] at ex
    obtain ⟨rfl, hq1, rfl⟩ := ex
    obtain ⟨b, off, rfl, hc0⟩ := cx m (by omega)
    rw [e2] at hc0
    have HB : Hid (bl (val xs) = 32 * m + bl t) := e3
    have hb32 := bl_le32 ht2
    have hm3 : m ≤ 1099511627776 := by omega
    rw [e1]
    clear e1 e2 e3 hq1 cx ho h0 hao hls h hl1
    have hkf : (((m + 1 : Nat) : Int) == 0) = false := by simp; omega
    go_wp2
    go_loop [4, 5] (fun n tv => ∃ (N T : Nat), n = .int .i64 N ∧ tv = .int .u32 T ∧ T < 4294967296 ∧ N + bl T = 32 * m + bl t) (fun _ tv => (intOf tv).toNat)
    case atStart => exact ⟨32 * m, t, by go_num, rfl, ht2, rfl⟩
    case round =>
      obtain ⟨N, T, rfl, rfl, hT, hinv⟩ := hrel
      by_cases hT0 : 0 < T
      · have hgt : (0 : Int) < (T : Int) := by omega
        have hh := bl_half (t := T) (by omega)
        have HN : Hid (N + 1 + bl (T / 2) = 32 * m + bl t) := by show _ = _; omega
        have hNb : N ≤ 35184372088864 := by omega
        clear hh hinv
        go_wp2
        go_round
        case rel => exact ⟨N + 1, T / 2, by go_num, by go_num, by omega, HN.out⟩
        case measure => simp [intOf]; omega
      · have hT1 : T = 0 := by omega
        subst hT1
        have HN : Hid (N = bl (val xs)) := by show _ = _; rw [HB.out]; rw [bl_zero] at hinv; omega
        clear hinv
        go_wp2
        go_ret
        exact ⟨by rw [HN.out]; rfl, hb⟩
end Go.Proofs.YtaafijifiiiblaaGreat

namespace Go.Proofs.YtaafijifiiiblaaGreat
open Go.RowKit

set_option maxRecDepth 100000 in
theorem bit_ref (v : Value) (xs : List Nat) (i : Int) (w : World) (h : Num w v xs) (hi : 0 ≤ i) (hi2 : i ≤ 1000000) :
    Calls Tryz.prog 128 #[v, .int .i64 i] w fun e w' => e = .returned (.int .u32 ((val xs / 2 ^ i.toNat % 2 : Nat) : Int)) ∧ w' = w := by
  obtain ⟨k, rfl⟩ := Int.eq_ofNat_of_zero_le hi
  rw [Int.toNat_natCast]
  obtain ⟨q, hq⟩ : ∃ q, q = k / 32 := ⟨_, rfl⟩
  obtain ⟨r, hr⟩ : ∃ r, r = k % 32 := ⟨_, rfl⟩
  have e1 : (k : Int) / 32 = (q : Int) := by omega
  have e2 : (k : Int) % 32 = (r : Int) := by omega
  have hr1 : r < 32 := by omega
  have hq1 : q ≤ 31250 := by omega
  have hx0 := limb_lt h.1 q
  have hbd := bit_digit h.1 q r hr1
  rw [show 32 * q + r = k by omega] at hbd
  obtain ⟨x, hx⟩ : ∃ x, x = xs.getD q 0 := ⟨_, rfl⟩
  rw [← hx] at hx0 hbd
  obtain ⟨D, hD⟩ : ∃ D, D = x / 2 ^ r := ⟨_, rfl⟩
  have eD : (x : Int) / 2 ^ r = (D : Int) := by rw [hD]; simp
  have hD1 : D < 4294967296 := by rw [hD]; exact Nat.lt_of_le_of_lt (Nat.div_le_self _ _) hx0
  have HF : Hid (val xs / 2 ^ k % 2 = D % 2) := by show _ = _; rw [← hbd, hD]
  have HX : Hid (x = xs.getD q 0) := hx
  clear hq hr hx hD hbd
  go_enter Tryz.func128, Tryz.ntmps128
  go_wp2_with fail
  refine (limb_ref _ _ _ _ h (by omega)).mono ?_
  rintro e w2 ⟨rfl, rfl⟩
  rw [Int.toNat_natCast, ← HX.out]
  clear h
  go_wp2
  go_ret
  exact ⟨by rw [HF.out]; rfl, rfl⟩
end Go.Proofs.YtaafijifiiiblaaGreat

namespace Go.Proofs.YtaafijifiiiblaaGreat
open Go.RowKit

theorem bl_lt (v : Nat) : v < 2 ^ bl v := by
  by_cases h : v = 0
  · subst h; decide
  · obtain ⟨m, e, _, h2⟩ := bl_bounds h
    rw [e]; exact h2
end Go.Proofs.YtaafijifiiiblaaGreat

namespace Go.Proofs.YtaafijifiiiblaaGreat

/-- Limbs whose highest one is none of 0. -/
theorem lim_of_ge {zs : List Nat} (h : limbs zs) {n : Nat} (hn : zs.length = n + 1) (hv : 4294967296 ^ n ≤ val zs) : lim (val zs) = zs := by
  apply lim_of_last h
  intro hne
  have e := low_succ zs n
  rw [low_all (by omega)] at e
  have hl := low_lt h n
  have : zs.getD n 0 ≠ 0 := by intro h0; rw [h0, Nat.mul_zero] at e; omega
  rw [List.getLast_eq_getElem]
  rw [List.getD_eq_getElem?_getD, List.getElem?_eq_getElem (by omega)] at this
  simpa [hn] using this
theorem lim_snoc {zs : List Nat} (h : limbs zs) {d : Nat} (hd : d < 4294967296) (h0 : d ≠ 0) : lim (val zs + 4294967296 ^ zs.length * d) = zs ++ [d] := by
  rw [← val_snoc]
  exact lim_of_last (limbs_snoc h hd) fun _ => by simpa using h0
theorem lim_ge {v n : Nat} (h : (lim v).length = n + 1) : 4294967296 ^ n ≤ v := by
  rcases Nat.lt_or_ge v (4294967296 ^ n) with h1 | h1
  · have := lim_len_le h1; omega
  · exact h1
end Go.Proofs.YtaafijifiiiblaaGreat

namespace Go.Proofs.YtaafijifiiiblaaGreat
open Go.RowKit

theorem double_step {xs ys : List Nat} {k c d : Nat} (hk : ys.length = k) (h : val ys + 4294967296 ^ k * c = 2 * low xs k + d) :
    val (ys ++ [(c + 2 * xs.getD k 0) % 4294967296]) + 4294967296 ^ (k + 1) * ((c + 2 * xs.getD k 0) / 4294967296) = 2 * low xs (k + 1) + d := by
  rw [val_snoc, hk, low_succ xs k, Nat.pow_succ, Nat.add_assoc, carry_eq, Nat.mul_add, Nat.mul_add, Nat.mul_left_comm 2]
  omega
/-- What double leaves. -/
def DblEnd (w : World) (xs : List Nat) (d : Nat) (e : Ending) (w' : World) : Prop :=
  ∃ u zs, e = .returned u ∧ Own w.heap.size 100 w' u zs ∧ val zs = 2 * val xs + d ∧ zs.length ≤ xs.length + 1 ∧ (xs = lim (val xs) → zs = lim (2 * val xs + d)) ∧ Below w.heap.size w w'

set_option maxRecDepth 100000 in
set_option maxHeartbeats 3200000 in
theorem double_ref (u : Value) (xs : List Nat) (d : Nat) (w : World) (h : Num w u xs) (hlen : xs.length ≤ 1000000) (hd : d ≤ 1) :
    Calls Tryz.prog 126 #[u, .int .u32 (d : Int)] w fun e w' => DblEnd w xs d e w' := by
  obtain ⟨hbx, ao, cap, rfl, hca, hma, _, hcell⟩ := h.open_
  obtain ⟨iU, hiU, hzU0, hzU1, hzU2⟩ := info_parts Tryz.infoU
  obtain ⟨n, hn⟩ : ∃ n, n = xs.length := ⟨_, rfl⟩
  rw [← hn] at hlen hca ⊢
  have HN : Hid (n = xs.length) := hn
  clear hn h
  go_enter Tryz.func126, Tryz.ntmps126
  go_wp2
  go_loopw [5, 6, 7] (fun yv cv kv wq => ∃ (k r : Nat) (ys : List Nat), k ≤ n ∧ kv = .int .i64 k ∧ cv = .int .u64 r ∧ r ≤ 1 ∧ ys.length = k ∧ Own w.heap.size 100 wq yv ys ∧ Below w.heap.size w wq ∧ val ys + 4294967296 ^ k * r = 2 * low xs k + d) (fun _ _ kv _ => n - (intOf kv).toNat)
  case atStart => exact ⟨0, d, [], Nat.zero_le _, rfl, rfl, hd, rfl, Own.of_nil _ _ _, Below.refl _ _, by simp [low_zero, val]⟩
  case round =>
    obtain ⟨k, r, ys, hk, rfl, rfl, hr1, hyl, hoy, hbq, hinv⟩ := hrel
    have HY : Hid (ys.length = k) := hyl
    have HI : Hid (val ys + 4294967296 ^ k * r = 2 * low xs k + d) := hinv
    have hB : w.heap.size ≤ wr.heap.size := hbq.size
    clear hyl hinv
    by_cases hkn : k < n
    · have hkn' : (k : Int) < (n : Int) := by omega
      obtain ⟨bb, bo, rfl, hx1⟩ := hcell k (by rw [← HN.out]; exact hkn)
      have cx : wr.cell? ⟨bb, bo + k, none⟩ = some (.int .u32 ((xs.getD k 0 : Nat) : Int)) := by rw [hbq.cell (p := ⟨bb, bo + k, none⟩) (block_lt_of_cell hx1)]; exact hx1
      have hx0 := limb_lt hbx k
      obtain ⟨x, hx⟩ : ∃ x, x = xs.getD k 0 := ⟨_, rfl⟩
      rw [← hx] at cx hx0
      obtain ⟨T, hT⟩ : ∃ T, T = r + 2 * x := ⟨_, rfl⟩
      have eT : (r : Int) + 2 * (x : Int) = (T : Int) := by omega
      have hTb : T ≤ 8589934591 := by omega
      obtain ⟨L, hL⟩ : ∃ L, L = T % 4294967296 := ⟨_, rfl⟩
      have eL : (T : Int) % 4294967296 = (L : Int) := by omega
      have hLb : L < 4294967296 := by omega
      obtain ⟨H, hH⟩ : ∃ H, H = T / 4294967296 := ⟨_, rfl⟩
      have eH : (T : Int) / 4294967296 = (H : Int) := by omega
      have hHb : H ≤ 1 := by omega
      have HT : Hid (L = (r + 2 * xs.getD k 0) % 4294967296 ∧ H = (r + 2 * xs.getD k 0) / 4294967296) := by rw [← hx, ← hT]; exact ⟨hL, hH⟩
      have HO : Hid (wr.ownsRow w.heap.size 100 1 u5 k (ys.map U)) := by show _; rw [← HY.out]; exact hoy.2
      clear hx hT hL hH hx1 hcell
      have hB3 : w.heap.size ≤ (wr.alloc (.cells #[.int .u32 (L : Int)] 100)).heap.size := by simp; omega
      go_wp2_with (at_builtin; refine wpList_push _ rfl _ _ 23 rfl w.heap.size 100 iU (.int .u32 0) 4 Tryz.underlying23 hiU hzU0 hzU1 hzU2 rfl _ k (ys.map U) rfl (HO.out.alloc _) ⟨wr.heap.size, 0, none⟩ 1 1 [.int .u32 (L : Int)] rfl rfl (cell_one_new _ _ _) (fun u hu => by simp at hu; subst hu; rfl) (by decide) (by unfold maxLen; omega) (by omega) hB3 ?_)
      intro v' w5 ho hgr _ _
      have R := push_own (d := L) hoy hbq hB hLb (by rw [HY.out, show U L = .int .u32 (L : Int) from rfl]; exact ho) hgr
      clear ho hgr hoy hbq hB HO hB3 cx
      go_wp2
      go_roundw
      case rel =>
        refine ⟨k + 1, H, ys ++ [L], by omega, by go_num, rfl, hHb, by rw [List.length_append, HY.out]; rfl, R.1, R.2.1, ?_⟩
        rw [HT.out.1, HT.out.2]
        exact double_step HY.out HI.out
      case measure => simp [intOf]; omega
    · have hkn' : ¬ (k : Int) < (n : Int) := by omega
      have hkn2 : k = n := by omega
      subst hkn2
      have hI := HI.out
      rw [low_all (xs := xs) (by rw [← HN.out]; exact Nat.le_refl _)] at hI
      clear hcell
      by_cases hr0 : r = 0
      · subst hr0
        have hr0' : ¬ (0 : Int) < ((0 : Nat) : Int) := by omega
        rw [Nat.mul_zero, Nat.add_zero] at hI
        have HE : Hid (DblEnd w xs d (.returned u5) wr) := by
          refine ⟨u5, ys, rfl, hoy, hI, by rw [HY.out, HN.out]; omega, fun hnorm => ?_, hbq⟩
          rw [← hI]
          rcases Nat.eq_zero_or_pos k with h0 | h0
          · have : ys = [] := List.eq_nil_of_length_eq_zero (by rw [HY.out, h0])
            rw [this]; rfl
          · obtain ⟨m, hm⟩ : ∃ m, k = m + 1 := ⟨k - 1, by omega⟩
            refine (lim_of_ge hoy.1 (by rw [HY.out, hm]) ?_).symm
            have h3 : 4294967296 ^ m ≤ val xs := lim_ge (by rw [← hnorm, ← HN.out, hm])
            omega
        clear hI hoy hbq
        go_wp2_with fail
        go_ret
        exact HE.out
      · have hr0' : (0 : Int) < (r : Int) := by omega
        have hr32 : r < 4294967296 := by omega
        have HO : Hid (wr.ownsRow w.heap.size 100 1 u5 k (ys.map U)) := by show _; rw [← HY.out]; exact hoy.2
        have hB3 : w.heap.size ≤ (wr.alloc (.cells #[.int .u32 (r : Int)] 100)).heap.size := by simp; omega
        have HI2 : Hid (val ys + 4294967296 ^ k * r = 2 * val xs + d) := hI
        clear hI
        go_wp2_with (at_builtin; refine wpList_push _ rfl _ _ 23 rfl w.heap.size 100 iU (.int .u32 0) 4 Tryz.underlying23 hiU hzU0 hzU1 hzU2 rfl _ k (ys.map U) rfl (HO.out.alloc _) ⟨wr.heap.size, 0, none⟩ 1 1 [.int .u32 (r : Int)] rfl rfl (cell_one_new _ _ _) (fun u hu => by simp at hu; subst hu; rfl) (by decide) (by unfold maxLen; omega) (by omega) hB3 ?_)
        intro v' w5 ho hgr _ _
        have R := push_own (d := r) hoy hbq hB hr32 (by rw [HY.out, show U r = .int .u32 (r : Int) from rfl]; exact ho) hgr
        have HE : Hid (DblEnd w xs d (.returned v') w5) := by
          refine ⟨v', ys ++ [r], rfl, R.1, by rw [val_snoc, HY.out]; exact HI2.out, by rw [List.length_append, HY.out, HN.out]; exact Nat.le_refl _, fun _ => ?_, R.2.1⟩
          rw [← HI2.out]
          have := lim_snoc hoy.1 hr32 hr0
          rw [HY.out] at this
          exact this.symm
        clear ho hgr hoy hbq hB HO hB3 R
        go_wp2_with fail
        go_ret
        exact HE.out
end Go.Proofs.YtaafijifiiiblaaGreat
