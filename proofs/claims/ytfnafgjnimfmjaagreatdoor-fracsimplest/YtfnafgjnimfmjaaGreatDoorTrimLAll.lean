/-
  Proved here: what the plain way's limb, Uint, Bits, Cmp and Sub answer.
  Proved here: what the plain way's Bit answers.
  Proved here: what the plain way's Shift answers.
  Proved here: when limbs are a number's normal ones. No condition.
  Proved here: what the plain way's double answers.
  Proved here: what the plain way's Cmp, Sub and Add answer.
  Proved here: what the plain way's Sub (of a smaller number), Add and Mul answer.
  Proved here: plain mathematics for the plain way's division (bit by bit) and common divisor (halves and differences).
  Proved here: what divideBy answers.
  Proved here: plain facts on a quotient's limb that is guessed out of the highest limbs. No condition.
  Proved here: what takeTimes and putBack do.
  Proved here: a guessed limb of a quotient is the true one or one more.
  Proved here: plain facts on a division limb by limb. No condition.
  Proved here: facts on rows beside one another, and what LeadingZeros32 answers.
  Proved here: what divideLong answers.
  Proved here: what DivMod answers.
  Proved here: small steps from world to world.
  Proved here: what the plain way's DivMod answers.
  Proved here: what the plain way's half and even answer.
  Proved here: a number that is read in a world is one number.
  Proved here: what the plain way's Gcd answers.
  Proved here: plain facts on numbers written with digits. No condition.
  Proved here: what digitsAlone answers.
  Proved here: what appendDigits answers.
  Proved here: what Parse answers.
  Proved here: what strings.TrimLeft answers at the cutset 0.
-/
import Derived.Test.YtfnafgjnimfmjaaGreatDoorSubAll
import Derived.Deep.RegionHeld3
namespace Go.Proofs.YtfnafgjnimfmjaaGreatDoor
set_option maxRecDepth 100000
set_option maxHeartbeats 12800000
open Go.RowKit

theorem limb_ref (v : Value) (xs : List Nat) (i : Int) (w : World) (h : Num w v xs) (hi : 0 ≤ i) :
  Calls Tryz.prog 142 #[v, .int .i64 i] w fun e w' => e = .returned (.int .u64 ((xs.getD i.toNat 0 : Nat) : Int)) ∧ w' = w := by
 obtain ⟨hb, ao, cap, rfl, hc, hm, hnil, hcell⟩ := h.open_
 clear h
 obtain ⟨k, rfl⟩ := Int.eq_ofNat_of_zero_le hi
 have hlt := limb_lt hb k
 by_cases hk : k < xs.length
 ·
  obtain ⟨b, off, rfl, hc0⟩ := hcell k hk
  rw [Int.toNat_natCast]
  obtain ⟨x, hx⟩ : ∃ x, x = xs.getD k 0 := ⟨_, rfl⟩
  rw [← hx] at hc0 hlt ⊢
  clear hx hcell hnil hb
  go_enter Tryz.func142, Tryz.ntmps142
  go_wp2
  go_ret
  exact ⟨rfl, rfl⟩
 ·
  have hg : xs.getD k 0 = 0 := by rw [List.getD_eq_getElem?_getD, List.getElem?_eq_none (by omega)]; rfl
  rw [Int.toNat_natCast, hg]
  clear hcell hnil hb hlt hg
  have hge : ¬ (k : Int) < ((xs.length : Nat) : Int) := by omega
  go_enter Tryz.func142, Tryz.ntmps142
  go_wp2
  go_ret
  exact ⟨rfl, rfl⟩
def Told (B : Nat) (w : World) (v : Value) (en : Ending) (w' : World) : Prop := en = .returned v ∧ Below B w w'


theorem bits_ref (v : Value) (xs : List Nat) (w : World) (h : Num w v xs) (hlen : xs.length ≤ 1099511627776) :
  Calls Tryz.prog 129 #[v] w fun e w' => Told w.heap.size w (.int .i64 (bl (val xs) : Nat)) e w' := by
 have hls := lim_short h
 go_enter Tryz.func129, Tryz.ntmps129
 go_wp2_with fail
 refine (norm_ref _ _ _ h hlen).mono ?_
 rintro e w1 ⟨v1, rfl, ho, hb⟩
 obtain ⟨ao, cap, rfl, hao, hl1, hm1⟩ := ho.ao
 by_cases h0 : val xs = 0
 ·
  have hk0 : (lim (val xs)).length = 0 := by rw [h0, lim_zero]; rfl
  have HB : Hid (bl (val xs) = 0) := by show _ = _; rw [h0]; rfl
  rw [hk0]
  clear hk0 ho h0 hao hls h
  go_wp2
  go_ret
  exact ⟨by rw [HB.out]; rfl, hb⟩
 ·
  obtain ⟨m, t, e1, e2, ht, ht2, e3⟩ := lim_last h0
  obtain ⟨_, aox, capx, ex, _, _, _, cx⟩ := ho.num.open_
  simp only [Value.slice.injEq] at ex
  obtain ⟨rfl, hq1, rfl⟩ := ex
  obtain ⟨b, off, rfl, hc0⟩ := cx m (by omega)
  rw [e2] at hc0
  have HB : Hid (bl (val xs) = 32 * m + bl t) := e3
  have hb32 := bl_le32 ht2
  have hm3 : m ≤ 1099511627776 := by omega
  rw [e1]
  clear e1 e2 e3 hq1 cx ho h0 hao hls h hl1
  have hkf : (((m + 1 : Nat) : Int) == 0) = false := by simp; omega
  go_wp2
  go_loop [4, 5] (fun n tv => ∃ (N T : Nat), n = .int .i64 N ∧ tv = .int .u32 T ∧ T < 4294967296 ∧ N + bl T = 32 * m + bl t) (fun _ tv => (intOf tv).toNat)
  case atStart => exact ⟨32 * m, t, by go_num, rfl, ht2, rfl⟩
  case round =>
   obtain ⟨N, T, rfl, rfl, hT, hinv⟩ := hrel
   by_cases hT0 : 0 < T
   ·
    have hgt : (0 : Int) < (T : Int) := by omega
    have hh := bl_half (t := T) (by omega)
    have HN : Hid (N + 1 + bl (T / 2) = 32 * m + bl t) := by show _ = _; omega
    have hNb : N ≤ 35184372088864 := by omega
    clear hh hinv
    go_wp2
    go_round
    case rel => exact ⟨N + 1, T / 2, by go_num, by go_num, by omega, HN.out⟩
    case measure => simp [intOf]; omega
   ·
    have hT1 : T = 0 := by omega
    subst hT1
    have HN : Hid (N = bl (val xs)) := by show _ = _; rw [HB.out]; rw [bl_zero] at hinv; omega
    clear hinv
    go_wp2
    go_ret
    exact ⟨by rw [HN.out]; rfl, hb⟩
open Go.RowKit

theorem bit_ref (v : Value) (xs : List Nat) (i : Int) (w : World) (h : Num w v xs) (hi : 0 ≤ i) (hi2 : i ≤ 1000000) :
  Calls Tryz.prog 130 #[v, .int .i64 i] w fun e w' => e = .returned (.int .u32 ((val xs / 2 ^ i.toNat % 2 : Nat) : Int)) ∧ w' = w := by
 obtain ⟨k, rfl⟩ := Int.eq_ofNat_of_zero_le hi
 rw [Int.toNat_natCast]
 obtain ⟨q, hq⟩ : ∃ q, q = k / 32 := ⟨_, rfl⟩
 obtain ⟨r, hr⟩ : ∃ r, r = k % 32 := ⟨_, rfl⟩
 have e1 : (k : Int) / 32 = (q : Int) := by omega
 have e2 : (k : Int) % 32 = (r : Int) := by omega
 have hr1 : r < 32 := by omega
 have hq1 : q ≤ 31250 := by omega
 have hx0 := limb_lt h.1 q
 have hbd := bit_digit h.1 q r hr1
 rw [show 32 * q + r = k by omega] at hbd
 obtain ⟨x, hx⟩ : ∃ x, x = xs.getD q 0 := ⟨_, rfl⟩
 rw [← hx] at hx0 hbd
 obtain ⟨D, hD⟩ : ∃ D, D = x / 2 ^ r := ⟨_, rfl⟩
 have eD : (x : Int) / 2 ^ r = (D : Int) := by rw [hD]; simp
 have hD1 : D < 4294967296 := by rw [hD]; exact Nat.lt_of_le_of_lt (Nat.div_le_self _ _) hx0
 have HF : Hid (val xs / 2 ^ k % 2 = D % 2) := by show _ = _; rw [← hbd, hD]
 have HX : Hid (x = xs.getD q 0) := hx
 clear hq hr hx hD hbd
 go_enter Tryz.func130, Tryz.ntmps130
 go_wp2_with fail
 refine (limb_ref _ _ _ _ h (by omega)).mono ?_
 rintro e w2 ⟨rfl, rfl⟩
 rw [Int.toNat_natCast, ← HX.out]
 clear h
 go_wp2
 go_ret
 exact ⟨by rw [HF.out]; rfl, rfl⟩
open Go.RowKit

theorem bl_lt (v : Nat) : v < 2 ^ bl v := by
 by_cases h : v = 0
 · subst h; decide
 ·
  obtain ⟨m, e, _, h2⟩ := bl_bounds h
  rw [e]; exact h2

theorem lim_of_ge {zs : List Nat} (h : limbs zs) {n : Nat} (hn : zs.length = n + 1) (hv : 4294967296 ^ n ≤ val zs) : lim (val zs) = zs := by
 apply lim_of_last h
 intro hne
 have e := low_succ zs n
 rw [low_all (by omega)] at e
 have hl := low_lt h n
 have : zs.getD n 0 ≠ 0 := by intro h0; rw [h0, Nat.mul_zero] at e; omega
 rw [List.getLast_eq_getElem]
 rw [List.getD_eq_getElem?_getD, List.getElem?_eq_getElem (by omega)] at this
 simpa [hn] using this
theorem lim_snoc {zs : List Nat} (h : limbs zs) {d : Nat} (hd : d < 4294967296) (h0 : d ≠ 0) : lim (val zs + 4294967296 ^ zs.length * d) = zs ++ [d] := by
 rw [← val_snoc]
 exact lim_of_last (limbs_snoc h hd) fun _ => by simpa using h0
theorem lim_ge {v n : Nat} (h : (lim v).length = n + 1) : 4294967296 ^ n ≤ v := by
 rcases Nat.lt_or_ge v (4294967296 ^ n) with h1 | h1
 · have := lim_len_le h1; omega
 · exact h1
open Go.RowKit

theorem double_step {xs ys : List Nat} {k c d : Nat} (hk : ys.length = k) (h : val ys + 4294967296 ^ k * c = 2 * low xs k + d) :
  val (ys ++ [(c + 2 * xs.getD k 0) % 4294967296]) + 4294967296 ^ (k + 1) * ((c + 2 * xs.getD k 0) / 4294967296) = 2 * low xs (k + 1) + d := by
 rw [val_snoc, hk, low_succ xs k, Nat.pow_succ, Nat.add_assoc, carry_eq, Nat.mul_add, Nat.mul_add, Nat.mul_left_comm 2]
 omega
def DblEnd (w : World) (xs : List Nat) (d : Nat) (e : Ending) (w' : World) : Prop :=
 ∃ u zs, e = .returned u ∧ Own w.heap.size 37 w' u zs ∧ val zs = 2 * val xs + d ∧ zs.length ≤ xs.length + 1 ∧ (xs = lim (val xs) → zs = lim (2 * val xs + d)) ∧ Below w.heap.size w w'
theorem double_ref (u : Value) (xs : List Nat) (d : Nat) (w : World) (h : Num w u xs) (hlen : xs.length ≤ 1000000) (hd : d ≤ 1) :
  Calls Tryz.prog 128 #[u, .int .u32 (d : Int)] w fun e w' => DblEnd w xs d e w' := by
 obtain ⟨hbx, ao, cap, rfl, hca, hma, _, hcell⟩ := h.open_
 obtain ⟨iU, hiU, hzU0, hzU1, hzU2⟩ := info_parts Tryz.infoU
 obtain ⟨n, hn⟩ : ∃ n, n = xs.length := ⟨_, rfl⟩
 rw [← hn] at hlen hca ⊢
 have HN : Hid (n = xs.length) := hn
 clear hn h
 go_enter Tryz.func128, Tryz.ntmps128
 go_wp2
 go_loopw [5, 6, 7] (fun yv cv kv wq => ∃ (k r : Nat) (ys : List Nat), k ≤ n ∧ kv = .int .i64 k ∧ cv = .int .u64 r ∧ r ≤ 1 ∧ ys.length = k ∧ Own w.heap.size 37 wq yv ys ∧ Below w.heap.size w wq ∧ val ys + 4294967296 ^ k * r = 2 * low xs k + d) (fun _ _ kv _ => n - (intOf kv).toNat)
 case atStart => exact ⟨0, d, [], Nat.zero_le _, rfl, rfl, hd, rfl, Own.of_nil _ _ _, Below.refl _ _, by simp [low_zero, val]⟩
 case round =>
  obtain ⟨k, r, ys, hk, rfl, rfl, hr1, hyl, hoy, hbq, hinv⟩ := hrel
  have HY : Hid (ys.length = k) := hyl
  have HI : Hid (val ys + 4294967296 ^ k * r = 2 * low xs k + d) := hinv
  have hB : w.heap.size ≤ wr.heap.size := hbq.size
  clear hyl hinv
  by_cases hkn : k < n
  ·
   have hkn' : (k : Int) < (n : Int) := by omega
   obtain ⟨bb, bo, rfl, hx1⟩ := hcell k (by rw [← HN.out]; exact hkn)
   have cx : wr.cell? ⟨bb, bo + k, none⟩ = some (.int .u32 ((xs.getD k 0 : Nat) : Int)) := by rw [hbq.cell (p := ⟨bb, bo + k, none⟩) (block_lt_of_cell hx1)]; exact hx1
   have hx0 := limb_lt hbx k
   obtain ⟨x, hx⟩ : ∃ x, x = xs.getD k 0 := ⟨_, rfl⟩
   rw [← hx] at cx hx0
   obtain ⟨T, hT⟩ : ∃ T, T = r + 2 * x := ⟨_, rfl⟩
   have eT : (r : Int) + 2 * (x : Int) = (T : Int) := by omega
   have hTb : T ≤ 8589934591 := by omega
   obtain ⟨L, hL⟩ : ∃ L, L = T % 4294967296 := ⟨_, rfl⟩
   have eL : (T : Int) % 4294967296 = (L : Int) := by omega
   have hLb : L < 4294967296 := by omega
   obtain ⟨H, hH⟩ : ∃ H, H = T / 4294967296 := ⟨_, rfl⟩
   have eH : (T : Int) / 4294967296 = (H : Int) := by omega
   have hHb : H ≤ 1 := by omega
   have HT : Hid (L = (r + 2 * xs.getD k 0) % 4294967296 ∧ H = (r + 2 * xs.getD k 0) / 4294967296) := by rw [← hx, ← hT]; exact ⟨hL, hH⟩
   have HO : Hid (wr.ownsRow w.heap.size 37 1 u5 k (ys.map U)) := by show _; rw [← HY.out]; exact hoy.2
   clear hx hT hL hH hx1 hcell
   have hB3 : w.heap.size ≤ (wr.alloc (.cells #[.int .u32 (L : Int)] 37)).heap.size := by simp; omega
   go_wp2_with (at_builtin; refine wpList_push _ rfl _ _ 23 rfl w.heap.size 37 iU (.int .u32 0) 4 Tryz.underlying23 hiU hzU0 hzU1 hzU2 rfl _ k (ys.map U) rfl (HO.out.alloc _) ⟨wr.heap.size, 0, none⟩ 1 1 [.int .u32 (L : Int)] rfl rfl (cell_one_new _ _ _) (fun u hu => by simp at hu; subst hu; rfl) (by decide) (by unfold maxLen; omega) (by omega) hB3 ?_)
   intro v' w5 ho hgr _ _
   have R := push_own (d := L) hoy hbq hB hLb (by rw [HY.out, show U L = .int .u32 (L : Int) from rfl]; exact ho) hgr
   clear ho hgr hoy hbq hB HO hB3 cx
   go_wp2
   go_roundw
   case rel =>
    refine ⟨k + 1, H, ys ++ [L], by omega, by go_num, rfl, hHb, by rw [List.length_append, HY.out]; rfl, R.1, R.2.1, ?_⟩
    rw [HT.out.1, HT.out.2]
    exact double_step HY.out HI.out
   case measure => simp [intOf]; omega
  ·
   have hkn' : ¬ (k : Int) < (n : Int) := by omega
   have hkn2 : k = n := by omega
   subst hkn2
   have hI := HI.out
   rw [low_all (xs := xs) (by rw [← HN.out]; exact Nat.le_refl _)] at hI
   clear hcell
   by_cases hr0 : r = 0
   ·
    subst hr0
    have hr0' : ¬ (0 : Int) < ((0 : Nat) : Int) := by omega
    rw [Nat.mul_zero, Nat.add_zero] at hI
    have HE : Hid (DblEnd w xs d (.returned u5) wr) := by
     refine ⟨u5, ys, rfl, hoy, hI, by rw [HY.out, HN.out]; omega, fun hnorm => ?_, hbq⟩
     rw [← hI]
     rcases Nat.eq_zero_or_pos k with h0 | h0
     ·
      have : ys = [] := List.eq_nil_of_length_eq_zero (by rw [HY.out, h0])
      rw [this]; rfl
     ·
      obtain ⟨m, hm⟩ : ∃ m, k = m + 1 := ⟨k - 1, by omega⟩
      refine (lim_of_ge hoy.1 (by rw [HY.out, hm]) ?_).symm
      have h3 : 4294967296 ^ m ≤ val xs := lim_ge (by rw [← hnorm, ← HN.out, hm])
      omega
    clear hI hoy hbq
    go_wp2_with fail
    go_ret
    exact HE.out
   ·
    have hr0' : (0 : Int) < (r : Int) := by omega
    have hr32 : r < 4294967296 := by omega
    have HO : Hid (wr.ownsRow w.heap.size 37 1 u5 k (ys.map U)) := by show _; rw [← HY.out]; exact hoy.2
    have hB3 : w.heap.size ≤ (wr.alloc (.cells #[.int .u32 (r : Int)] 37)).heap.size := by simp; omega
    have HI2 : Hid (val ys + 4294967296 ^ k * r = 2 * val xs + d) := hI
    clear hI
    go_wp2_with (at_builtin; refine wpList_push _ rfl _ _ 23 rfl w.heap.size 37 iU (.int .u32 0) 4 Tryz.underlying23 hiU hzU0 hzU1 hzU2 rfl _ k (ys.map U) rfl (HO.out.alloc _) ⟨wr.heap.size, 0, none⟩ 1 1 [.int .u32 (r : Int)] rfl rfl (cell_one_new _ _ _) (fun u hu => by simp at hu; subst hu; rfl) (by decide) (by unfold maxLen; omega) (by omega) hB3 ?_)
    intro v' w5 ho hgr _ _
    have R := push_own (d := r) hoy hbq hB hr32 (by rw [HY.out, show U r = .int .u32 (r : Int) from rfl]; exact ho) hgr
    have HE : Hid (DblEnd w xs d (.returned v') w5) := by
     refine ⟨v', ys ++ [r], rfl, R.1, by rw [val_snoc, HY.out]; exact HI2.out, by rw [List.length_append, HY.out, HN.out]; exact Nat.le_refl _, fun _ => ?_, R.2.1⟩
     rw [← HI2.out]
     have := lim_snoc hoy.1 hr32 hr0
     rw [HY.out] at this
     exact this.symm
    clear ho hgr hoy hbq hB HO hB3 R
    go_wp2_with fail
    go_ret
    exact HE.out
open Go.RowKit

theorem cmp_ref (u v : Value) (xs ys : List Nat) (w : World) (hu : Num w u xs) (hv : Num w v ys) (hbx : xs.length ≤ 1099511627776) (hby : ys.length ≤ 1099511627776) :
  Calls Tryz.prog 127 #[u, v] w fun e w' => e = .returned (.int .i64 (cmpN (val xs) (val ys))) ∧ w' = w := by
 obtain ⟨ao, cap, rfl, hl1, hm1⟩ := hu.ao
 obtain ⟨bo, dap, rfl, hl2, hm2⟩ := hv.ao
 obtain ⟨k, hk⟩ : ∃ k, k = xs.length := ⟨_, rfl⟩
 obtain ⟨m, hm⟩ : ∃ m, m = ys.length := ⟨_, rfl⟩
 rw [← hk] at hu hl1 hbx ⊢
 rw [← hm] at hv hl2 hby ⊢
 have HK : Hid (k = xs.length) := hk
 have HM : Hid (m = ys.length) := hm
 clear hk hm
 have pre : ∃ n : Nat, k ≤ n ∧ m ≤ n ∧ n ≤ 1099511627776 ∧ ((k < m ∧ n = m) ∨ (¬ k < m ∧ n = k)) := by
  by_cases h : k < m
  · exact ⟨m, by omega, by omega, by omega, Or.inl ⟨h, rfl⟩⟩
  · exact ⟨k, by omega, by omega, by omega, Or.inr ⟨h, rfl⟩⟩
 obtain ⟨n, hn1, hn2, hn3, hcase⟩ := pre
 rcases hcase with ⟨hkm, hn⟩ | ⟨hkm, hn⟩
 all_goals
  have HNN : Hid (n = _) := hn
  clear hn
  go_enter Tryz.func127, Tryz.ntmps127
  go_wp2
  go_loop [6] (fun t => ∃ i : Nat, i ≤ n ∧ t = .int .i64 ((i : Int) - 1) ∧ (∀ j, i ≤ j → xs.getD j 0 = ys.getD j 0)) (fun t => (intOf t + 1).toNat)
  case atStart => exact ⟨n, Nat.le_refl _, by rw [HNN.out], fun j hj => by rw [getD_ge (by have := HK.out; omega), getD_ge (by have := HM.out; omega)]⟩
  case round =>
   obtain ⟨i, hi, rfl, hz⟩ := hrel
   have HZ : Hid (∀ j, i ≤ j → xs.getD j 0 = ys.getD j 0) := hz
   clear hz
   by_cases hi0 : 0 < i
   ·
    have hge : (0 : Int) ≤ (i : Int) - 1 := by omega
    have hx0 := limb_lt hu.1 (i - 1)
    have hy0 := limb_lt hv.1 (i - 1)
    have ei : ((i : Int) - 1).toNat = i - 1 := by omega
    obtain ⟨x, hx⟩ : ∃ x, x = xs.getD (i - 1) 0 := ⟨_, rfl⟩
    obtain ⟨y, hy⟩ : ∃ y, y = ys.getD (i - 1) 0 := ⟨_, rfl⟩
    have HX : Hid (x = xs.getD (i - 1) 0) := hx
    have HY : Hid (y = ys.getD (i - 1) 0) := hy
    have HEI : Hid (((i : Int) - 1).toNat = i - 1) := ei
    rw [← hx] at hx0
    rw [← hy] at hy0
    clear hx hy ei
    go_wp2_with fail
    refine (limb_ref _ _ _ _ hu (by omega)).mono ?_
    rintro e w2 ⟨rfl, rfl⟩
    rw [HEI.out, ← HX.out]
    go_wp2_with fail
    refine (limb_ref _ _ _ _ hv (by omega)).mono ?_
    rintro e w3 ⟨rfl, rfl⟩
    rw [HEI.out, ← HY.out]
    have top : ∀ j, i - 1 < j → xs.getD j 0 = ys.getD j 0 := fun j hj => HZ.out j (by omega)
    have HT : Hid (∀ j, i - 1 < j → xs.getD j 0 = ys.getD j 0) := top
    clear top
    by_cases h1 : x < y
    ·
     have HR : Hid (cmpN (val xs) (val ys) = -1) := cmpN_lt (val_lt_top (i - 1) hu.1 hv.1 HT.out (by rw [← HX.out, ← HY.out]; exact h1))
     have h1' : (x : Int) < (y : Int) := by omega
     clear hu hv
     go_wp2
     go_ret
     exact ⟨by rw [HR.out]; rfl, rfl⟩
    ·
     have h1' : ¬ (x : Int) < (y : Int) := by omega
     by_cases h2 : y < x
     ·
      have HR : Hid (cmpN (val xs) (val ys) = 1) := cmpN_gt (val_lt_top (i - 1) hv.1 hu.1 (fun j hj => (HT.out j hj).symm) (by rw [← HX.out, ← HY.out]; exact h2))
      have h2' : (y : Int) < (x : Int) := by omega
      clear hu hv
      go_wp2
      go_ret
      exact ⟨by rw [HR.out]; rfl, rfl⟩
     ·
      have h2' : ¬ (y : Int) < (x : Int) := by omega
      go_wp2
      go_round
      case rel =>
       refine ⟨i - 1, by omega, by congr 1; omega, fun j hj => ?_⟩
       by_cases hj2 : j = i - 1
       · rw [hj2, ← HX.out, ← HY.out]; omega
       · exact HZ.out j (by omega)
      case measure => simp [intOf]; omega
   ·
    have hi1 : i = 0 := by omega
    subst hi1
    have HR : Hid (cmpN (val xs) (val ys) = 0) := by
     show _ = _
     rw [val_congr n (by have := HK.out; omega) (by have := HM.out; omega) (fun j => HZ.out j (by omega))]
     exact cmpN_eq _
    clear hu hv
    go_wp2
    go_ret
    exact ⟨by rw [HR.out]; rfl, rfl⟩
theorem low_mod {ys : List Nat} (h : limbs ys) (n : Nat) : low ys n = val ys % 4294967296 ^ n := by
 have h1 := low_lt h n
 rcases Nat.lt_or_ge n ys.length with hn | hn
 · conv => rhs; rw [val_split ys n (by omega), Nat.add_mul_mod_self_left, Nat.mod_eq_of_lt h1]
 ·
  rw [low_all hn] at h1 ⊢
  rw [Nat.mod_eq_of_lt h1]
theorem sub_done {xs ys zs : List Nat} {b : Nat} (hx : limbs xs) (hy : limbs ys) (hz : limbs zs) (hzl : zs.length = xs.length) (hle : val ys ≤ val xs) (h : low xs xs.length + 4294967296 ^ xs.length * b = low ys xs.length + val zs) : val zs = val xs - val ys := by
 have h1 := val_lt hx
 have h2 := val_lt hz
 rw [low_all (Nat.le_refl _), low_mod hy, Nat.mod_eq_of_lt (by omega)] at h
 rw [hzl] at h2
 rcases Nat.eq_zero_or_pos b with hb | hb
 · subst hb; omega
 ·
  have := Nat.mul_le_mul_left (4294967296 ^ xs.length) hb
  omega
theorem sub_step {xs ys zs : List Nat} {i b b' d : Nat} (hzl : zs.length = i) (h : low xs i + 4294967296 ^ i * b = low ys i + val zs) (hd : xs.getD i 0 + 4294967296 * b' = ys.getD i 0 + b + d) :
  low xs (i + 1) + 4294967296 ^ (i + 1) * b' = low ys (i + 1) + val (zs ++ [d]) := by
 rw [val_snoc, low_succ, low_succ, hzl, Nat.pow_succ]
 have e : 4294967296 ^ i * (xs.getD i 0 + 4294967296 * b') = 4294967296 ^ i * (ys.getD i 0 + b + d) := by rw [hd]
 rw [Nat.mul_add, Nat.mul_add, Nat.mul_add, ← Nat.mul_assoc] at e
 omega
theorem add_push {xs ys zs : List Nat} {i c : Nat} (hzl : zs.length = i) (h : val zs + 4294967296 ^ i * c = low xs i + low ys i) :
  val (zs ++ [(c + xs.getD i 0 + ys.getD i 0) % 4294967296]) + 4294967296 ^ (i + 1) * ((c + xs.getD i 0 + ys.getD i 0) / 4294967296) = low xs (i + 1) + low ys (i + 1) := by
 rw [val_snoc, low_succ, low_succ, Nat.pow_succ, hzl]
 have := carry_eq (4294967296 ^ i) (c + xs.getD i 0 + ys.getD i 0)
 rw [Nat.mul_add, Nat.mul_add] at this
 omega
theorem sub_ref_yes (u v : Value) (xs ys : List Nat) (w : World) (hu : Num w u xs) (hv : Num w v ys) (hbx : xs.length ≤ 1099511627776) (hby : ys.length ≤ 1099511627776) (hle : val ys ≤ val xs) :
  Calls Tryz.prog 124 #[u, v] w fun e w' => SubEnd w.heap.size w (lim (val xs - val ys)) e w' := by
 obtain ⟨ao, cap, rfl, hl1, hm1⟩ := hu.ao
 obtain ⟨bo, dap, rfl, hl2, hm2⟩ := hv.ao
 obtain ⟨iU, hiU, hzU0, hzU1, hzU2⟩ := info_parts Tryz.infoU
 go_enter Tryz.func124, Tryz.ntmps124
 go_wp2_with fail
 refine (cmp_ref _ _ _ _ _ hu hv hbx hby).mono ?_
 rintro e w1 ⟨rfl, rfl⟩
 have hnl : ¬ cmpN (val xs) (val ys) < 0 := by rcases cmpN_cases (val xs) (val ys) with h | h | h <;> omega
 obtain ⟨c, hc⟩ : ∃ c, c = cmpN (val xs) (val ys) := ⟨_, rfl⟩
 rw [← hc] at hnl ⊢
 clear hc
 obtain ⟨n, hn⟩ : ∃ n, n = xs.length := ⟨_, rfl⟩
 rw [← hn] at hu hl1 hbx ⊢
 have HN : Hid (n = xs.length) := hn
 have HLE : Hid (val ys ≤ val xs) := hle
 clear hn hle
 go_wp2
 go_loopw [6, 7, 8] (fun o bv t wr => ∃ (i b : Nat) (zs : List Nat), i ≤ n ∧ t = .int .i64 i ∧ bv = .int .u64 b ∧ b ≤ 1 ∧ zs.length = i ∧ Own w1.heap.size 37 wr o zs ∧ Below w1.heap.size w1 wr ∧ w1.heap.size ≤ wr.heap.size ∧ low xs i + 4294967296 ^ i * b = low ys i + val zs) (fun _ _ t _ => n - (intOf t).toNat)
 case atStart => exact ⟨0, 0, [], Nat.zero_le _, rfl, rfl, by omega, rfl, Own.of_nil _ _ _, Below.refl _ _, Nat.le_refl _, by simp [low_zero, val]⟩
 case round =>
  obtain ⟨i, b, zs, hin, rfl, rfl, hb1, hzl, how, hbel, hB, hinv⟩ := hrel
  have HZ : Hid (zs.length = i) := hzl
  have HI : Hid (low xs i + 4294967296 ^ i * b = low ys i + val zs) := hinv
  clear hzl hinv
  have nu2 := hu.below (Nat.le_refl _) hbel
  have nv2 := hv.below (Nat.le_refl _) hbel
  by_cases hlt : i < n
  ·
   have hlt' : (i : Int) < (n : Int) := by omega
   have hx0 := limb_lt hu.1 i
   have hy0 := limb_lt hv.1 i
   obtain ⟨x, hx⟩ : ∃ x, x = xs.getD i 0 := ⟨_, rfl⟩
   obtain ⟨y, hy⟩ : ∃ y, y = ys.getD i 0 := ⟨_, rfl⟩
   have HX : Hid (x = xs.getD i 0) := hx
   have HY : Hid (y = ys.getD i 0) := hy
   rw [← hx] at hx0
   rw [← hy] at hy0
   clear hx hy
   go_wp2_with fail
   refine (limb_ref _ _ _ _ nu2 (by omega)).mono ?_
   rintro e w3 ⟨rfl, rfl⟩
   rw [Int.toNat_natCast, ← HX.out]
   go_wp2_with fail
   refine (limb_ref _ _ _ _ nv2 (by omega)).mono ?_
   rintro e w4 ⟨rfl, rfl⟩
   rw [Int.toNat_natCast, ← HY.out]
   clear nu2 nv2
   have HO : Hid (w4.ownsRow w1.heap.size 37 1 u6 i (zs.map U)) := by show _; rw [← HZ.out]; exact how.2
   by_cases hxy : x < y + b
   ·
    have hxy' : (x : Int) < (y : Int) + (b : Int) := by omega
    have hB3 : w1.heap.size ≤ (w4.alloc (.cells #[.int .u32 ((x : Int) + 4294967296 - ((y : Int) + (b : Int)))] 37)).heap.size := by simp; omega
    go_wp2_with (at_builtin; refine wpList_push _ rfl _ _ 23 rfl w1.heap.size 37 iU (.int .u32 0) 4 Tryz.underlying23 hiU hzU0 hzU1 hzU2 rfl _ i (zs.map U) rfl (HO.out.alloc _) ⟨w4.heap.size, 0, none⟩ 1 1 [.int .u32 ((x : Int) + 4294967296 - ((y : Int) + (b : Int)))] rfl rfl (cell_one_new _ _ _) (fun u hu => by simp at hu; subst hu; rfl) (by decide) (by unfold maxLen; omega) (by omega) hB3 ?_)
    intro v' w5 ho hgr _ _
    have R := push_own (d := x + 4294967296 - (y + b)) how hbel hB (by omega) (by rw [HZ.out, show U (x + 4294967296 - (y + b)) = .int .u32 ((x : Int) + 4294967296 - ((y : Int) + (b : Int))) by unfold U; congr 1; omega]; exact ho) hgr
    clear ho hgr how hbel hB HO hB3
    go_wp2
    go_roundw
    case rel => exact ⟨i + 1, 1, _, by omega, by go_num, rfl, by omega, by rw [List.length_append, HZ.out]; rfl, R.1, R.2.1, R.2.2, sub_step HZ.out HI.out (by rw [← HX.out, ← HY.out]; omega)⟩
    case measure => simp [intOf]; omega
   ·
    have hxy' : ¬ (x : Int) < (y : Int) + (b : Int) := by omega
    have hB3 : w1.heap.size ≤ (w4.alloc (.cells #[.int .u32 ((x : Int) - ((y : Int) + (b : Int)))] 37)).heap.size := by simp; omega
    go_wp2_with (at_builtin; refine wpList_push _ rfl _ _ 23 rfl w1.heap.size 37 iU (.int .u32 0) 4 Tryz.underlying23 hiU hzU0 hzU1 hzU2 rfl _ i (zs.map U) rfl (HO.out.alloc _) ⟨w4.heap.size, 0, none⟩ 1 1 [.int .u32 ((x : Int) - ((y : Int) + (b : Int)))] rfl rfl (cell_one_new _ _ _) (fun u hu => by simp at hu; subst hu; rfl) (by decide) (by unfold maxLen; omega) (by omega) hB3 ?_)
    intro v' w5 ho hgr _ _
    have R := push_own (d := x - (y + b)) how hbel hB (by omega) (by rw [HZ.out, show U (x - (y + b)) = .int .u32 ((x : Int) - ((y : Int) + (b : Int))) by unfold U; congr 1; omega]; exact ho) hgr
    clear ho hgr how hbel hB HO hB3
    go_wp2
    go_roundw
    case rel => exact ⟨i + 1, 0, _, by omega, by go_num, rfl, by omega, by rw [List.length_append, HZ.out]; rfl, R.1, R.2.1, R.2.2, sub_step HZ.out HI.out (by rw [← HX.out, ← HY.out]; omega)⟩
    case measure => simp [intOf]; omega
  ·
   have hlt' : ¬ (i : Int) < (n : Int) := by omega
   have hin' : i = n := by omega
   have HF : Hid (val zs = val xs - val ys) := by
    have h1 := HI.out
    rw [hin', HN.out] at h1
    exact sub_done hu.1 hv.1 how.1 (by rw [HZ.out, hin']; exact HN.out) HLE.out h1
   have hzl2 : zs.length ≤ 1099511627776 := by rw [HZ.out]; omega
   clear hin' nu2 nv2
   go_wp2_with fail
   refine (norm_ref _ _ _ how.num hzl2).mono ?_
   rintro e w3 ⟨v3, rfl, ho3, hb3⟩
   rw [HF.out] at ho3
   have ho4 := ho3.mono hB
   have hb4 := hbel.trans (hb3.mono hB)
   clear how ho3 hb3 hbel
   go_wp2
   go_ret2
   exact ⟨_, rfl, ho4, hb4⟩
open Go.RowKit

theorem sub_ref_no (u v : Value) (xs ys : List Nat) (w : World) (hu : Num w u xs) (hv : Num w v ys) (hbx : xs.length ≤ 1099511627776) (hby : ys.length ≤ 1099511627776) (hle : val xs < val ys) :
  Calls Tryz.prog 124 #[u, v] w fun e w' => e = .returned (.tuple #[.slice none 0 0, .bool false]) ∧ w' = w := by
 obtain ⟨ao, cap, rfl, hl1, hm1⟩ := hu.ao
 obtain ⟨bo, dap, rfl, hl2, hm2⟩ := hv.ao
 go_enter Tryz.func124, Tryz.ntmps124
 go_wp2_with fail
 refine (cmp_ref _ _ _ _ _ hu hv hbx hby).mono ?_
 rintro e w1 ⟨rfl, rfl⟩
 rw [cmpN_lt hle]
 clear hu hv
 go_wp2
 go_ret2
 exact ⟨rfl, rfl⟩
theorem add_end {xs ys zs : List Nat} {i : Nat} (hi : xs.length ≤ i) (hj : ys.length ≤ i) (h : val zs + 4294967296 ^ i * 0 = low xs i + low ys i) : val zs = val xs + val ys := by
 rw [low_all hi, low_all hj] at h; omega
theorem add_ref (u v : Value) (xs ys : List Nat) (w : World) (hu : Num w u xs) (hv : Num w v ys) (hbx : xs.length ≤ 1099511627775) (hby : ys.length ≤ 1099511627775) :
  Calls Tryz.prog 123 #[u, v] w fun e w' => Made' w.heap.size w (lim (val xs + val ys)) e w' := by
 obtain ⟨ao, cap, rfl, hl1, hm1⟩ := hu.ao
 obtain ⟨bo, dap, rfl, hl2, hm2⟩ := hv.ao
 obtain ⟨iU, hiU, hzU0, hzU1, hzU2⟩ := info_parts Tryz.infoU
 obtain ⟨k, hk⟩ : ∃ k, k = xs.length := ⟨_, rfl⟩
 obtain ⟨m, hm⟩ : ∃ m, m = ys.length := ⟨_, rfl⟩
 rw [← hk] at hu hl1 hbx ⊢
 rw [← hm] at hv hl2 hby ⊢
 have HK : Hid (k = xs.length) := hk
 have HM : Hid (m = ys.length) := hm
 clear hk hm
 go_enter Tryz.func123, Tryz.ntmps123
 go_wp2
 go_loopw [5, 6, 7] (fun o cv t wr => ∃ (i c : Nat) (zs : List Nat), i ≤ max k m + 1 ∧ t = .int .i64 i ∧ cv = .int .u64 c ∧ c ≤ 1 ∧ (max k m < i → c = 0) ∧ zs.length = i ∧ Own w.heap.size 37 wr o zs ∧ Below w.heap.size w wr ∧ w.heap.size ≤ wr.heap.size ∧ val zs + 4294967296 ^ i * c = low xs i + low ys i) (fun _ _ t _ => max k m + 1 - (intOf t).toNat)
 case atStart => exact ⟨0, 0, [], Nat.zero_le _, rfl, rfl, by omega, fun _ => rfl, rfl, Own.of_nil _ _ _, Below.refl _ _, Nat.le_refl _, by simp [low_zero, val]⟩
 case round =>
  obtain ⟨i, c, zs, hin, rfl, rfl, hc1, hci, hzl, how, hbel, hB, hinv⟩ := hrel
  have HZ : Hid (zs.length = i) := hzl
  have HI : Hid (val zs + 4294967296 ^ i * c = low xs i + low ys i) := hinv
  clear hzl hinv
  have nu2 := hu.below (Nat.le_refl _) hbel
  have nv2 := hv.below (Nat.le_refl _) hbel
  have him : i ≤ 1099511627777 := by omega
  by_cases hgo : i < k ∨ i < m ∨ 0 < c
  ·
   have him2 : i ≤ max k m := by
    rcases hgo with h | h | h
    · omega
    · omega
    ·
     rcases Nat.lt_or_ge (max k m) i with h2 | h2
     · have := hci h2; omega
     · exact h2
   have HIM : Hid (i ≤ max k m) := him2
   have hx0 := limb_lt hu.1 i
   have hy0 := limb_lt hv.1 i
   obtain ⟨x, hx⟩ : ∃ x, x = xs.getD i 0 := ⟨_, rfl⟩
   obtain ⟨y, hy⟩ : ∃ y, y = ys.getD i 0 := ⟨_, rfl⟩
   have HX : Hid (x = xs.getD i 0) := hx
   have HY : Hid (y = ys.getD i 0) := hy
   rw [← hx] at hx0
   rw [← hy] at hy0
   have HC : Hid (max k m < i + 1 → (c + x + y) / 4294967296 = 0) := by
    intro h
    have h1 : x = 0 := by rw [hx]; exact getD_ge (by have := HK.out; omega)
    have h2 : y = 0 := by rw [hy]; exact getD_ge (by have := HM.out; omega)
    omega
   have three : (i < k) ∨ (¬ i < k ∧ i < m) ∨ (¬ i < k ∧ ¬ i < m ∧ 0 < c) := by omega
   clear hx hy hci him2 hgo
   have HO : Hid (wr.ownsRow w.heap.size 37 1 u5 i (zs.map U)) := by show _; rw [← HZ.out]; exact how.2
   have HU : Hid (U ((c + x + y) % 4294967296) = .int .u32 (((c : Int) + (x : Int) + (y : Int)) % 4294967296)) := by show _ = _; simp [U]
   have hB3 : w.heap.size ≤ (wr.alloc (.cells #[.int .u32 (((c : Int) + (x : Int) + (y : Int)) % 4294967296)] 37)).heap.size := by simp; omega
   rcases three with h1 | ⟨h1, h2⟩ | ⟨h1, h2, h3⟩
   all_goals
    first | have d1 := decide_eq_true h1 | have d1 := decide_eq_false h1
    try (first | have d2 := decide_eq_true h2 | have d2 := decide_eq_false h2)
    try have d3 : (0 : Int) < (c : Int) := Int.natCast_pos.2 h3
    go_wp2_with fail
    refine (limb_ref _ _ _ _ nu2 (by omega)).mono ?_
    rintro e w3 ⟨rfl, rfl⟩
    rw [Int.toNat_natCast, ← HX.out]
    go_wp2_with fail
    refine (limb_ref _ _ _ _ nv2 (by omega)).mono ?_
    rintro e w4 ⟨rfl, rfl⟩
    rw [Int.toNat_natCast, ← HY.out]
    clear nu2 nv2
    go_wp2_with (at_builtin; refine wpList_push _ rfl _ _ 23 rfl w.heap.size 37 iU (.int .u32 0) 4 Tryz.underlying23 hiU hzU0 hzU1 hzU2 rfl _ i (zs.map U) rfl (HO.out.alloc _) ⟨w4.heap.size, 0, none⟩ 1 1 [.int .u32 (((c : Int) + (x : Int) + (y : Int)) % 4294967296)] rfl rfl (cell_one_new _ _ _) (fun u hu => by simp at hu; subst hu; rfl) (by decide) (by unfold maxLen; omega) (by omega) hB3 ?_)
    intro v' w5 ho hgr _ _
    have R := push_own (d := (c + x + y) % 4294967296) how hbel hB (by omega) (by rw [HZ.out, HU.out]; exact ho) hgr
    clear ho hgr how hbel hB HO hB3
    go_wp2
    go_roundw
    case rel => exact ⟨i + 1, (c + x + y) / 4294967296, _, by have := HIM.out; omega, by go_num, by go_num, by omega, HC.out, by rw [List.length_append, HZ.out]; rfl, R.1, R.2.1, R.2.2, by rw [HX.out, HY.out]; exact add_push HZ.out HI.out⟩
    case measure => have := HIM.out; simp [intOf]; omega
  ·
   have h1 : ¬ i < k := fun h => hgo (Or.inl h)
   have h2 : ¬ i < m := fun h => hgo (Or.inr (Or.inl h))
   have h3 : c = 0 := by omega
   subst h3
   have d1 := decide_eq_false h1
   have d2 := decide_eq_false h2
   have HF : Hid (val zs = val xs + val ys) := add_end (by rw [← HK.out]; omega) (by rw [← HM.out]; omega) HI.out
   have hzl2 : zs.length ≤ 1099511627776 := by rw [HZ.out]; omega
   clear hgo hci nu2 nv2
   go_wp2_with fail
   refine (norm_ref _ _ _ how.num (by omega)).mono ?_
   rintro e w3 ⟨v3, rfl, ho3, hb3⟩
   rw [HF.out] at ho3
   have ho4 := ho3.mono hB
   have hb4 := hbel.trans (hb3.mono hB)
   clear how ho3 hb3 hbel
   go_wp2
   go_ret
   exact ⟨_, rfl, ho4, hb4⟩

theorem bit_split (A j : Nat) : A / 2 ^ j = 2 * (A / 2 ^ (j + 1)) + A / 2 ^ j % 2 := by
 rw [Nat.pow_succ, ← Nat.div_div_eq_div_mul]
 omega
theorem div_two_yes {X Y t R : Nat} (hR : 2 * (X % Y) + t = R) (ht : t ≤ 1) (hle : Y ≤ R) (hY : 0 < Y) :
  (2 * X + t) / Y = 2 * (X / Y) + 1 ∧ (2 * X + t) % Y = R - Y := by
 have h1 := Nat.div_add_mod X Y
 have h2 := Nat.mod_lt X hY
 have e : 2 * X + t = (R - Y) + Y * (2 * (X / Y) + 1) := by
  rw [Nat.mul_add, Nat.mul_left_comm Y 2]
  generalize Y * (X / Y) = Q at *
  omega
 have hlt : R - Y < Y := by omega
 rw [e]
 exact ⟨by rw [Nat.add_mul_div_left _ _ hY, Nat.div_eq_of_lt hlt]; omega, by rw [Nat.add_mul_mod_self_left, Nat.mod_eq_of_lt hlt]⟩
theorem div_two_no {X Y t R : Nat} (hR : 2 * (X % Y) + t = R) (hlt : R < Y) (hY : 0 < Y) :
  (2 * X + t) / Y = 2 * (X / Y) ∧ (2 * X + t) % Y = R := by
 have h1 := Nat.div_add_mod X Y
 have e : 2 * X + t = R + Y * (2 * (X / Y)) := by
  rw [Nat.mul_left_comm Y 2]
  generalize Y * (X / Y) = Q at *
  omega
 rw [e]
 exact ⟨by rw [Nat.add_mul_div_left _ _ hY, Nat.div_eq_of_lt hlt]; omega, by rw [Nat.add_mul_mod_self_left, Nat.mod_eq_of_lt hlt]⟩
theorem limb_room {zs : List Nat} (hz : limbs zs) {K j q r : Nat} (h : val zs = K * 2 ^ (j + 1)) (hp : 2 ^ j = 4294967296 ^ q * 2 ^ r) (hr : r ≤ 31) : zs.getD q 0 + 2 ^ r < 4294967296 := by
 have hd := limb_digit hz q
 have h1 : val zs / 4294967296 ^ q = K * 2 ^ (r + 1) := by
  rw [h, Nat.pow_succ, hp, Nat.mul_comm K, Nat.mul_assoc, Nat.mul_assoc, Nat.mul_div_cancel_left _ (Nat.pow_pos (by decide)), Nat.pow_succ, ← Nat.mul_assoc, Nat.mul_comm]
 have h2 : (4294967296 : Nat) = 2 ^ (r + 1) * 2 ^ (31 - r) := by rw [← Nat.pow_add, show r + 1 + (31 - r) = 32 by omega]
 rw [h1] at hd
 have h3 : K * 2 ^ (r + 1) % 4294967296 = 2 ^ (r + 1) * (K % 2 ^ (31 - r)) := by
  rw [h2, Nat.mul_comm K, Nat.mul_mod_mul_left]
 rw [h3] at hd
 have h4 : K % 2 ^ (31 - r) + 1 ≤ 2 ^ (31 - r) := Nat.mod_lt _ (Nat.two_pow_pos _)
 have h5 : 2 ^ (r + 1) * (K % 2 ^ (31 - r) + 1) ≤ 4294967296 := by
  calc 2 ^ (r + 1) * (K % 2 ^ (31 - r) + 1) ≤ 2 ^ (r + 1) * 2 ^ (31 - r) := Nat.mul_le_mul_left _ h4
   _ = 4294967296 := h2.symm
 rw [Nat.mul_add, Nat.mul_one, ← hd, Nat.pow_succ] at h5
 have := Nat.two_pow_pos r
 omega
theorem pull_bit {zs : List Nat} {K j q r : Nat} (hq : q < zs.length) (h : val zs = K * 2 ^ (j + 1)) (hp : 2 ^ j = 4294967296 ^ q * 2 ^ r) : val (zs.set q (zs.getD q 0 + 2 ^ r)) = (2 * K + 1) * 2 ^ j := by
 rw [val_set_add _ _ _ hq, h, ← hp, Nat.add_mul, Nat.one_mul, Nat.pow_succ, Nat.mul_comm 2 K, Nat.mul_assoc, Nat.mul_comm 2]
theorem gcd_half_left {x y G : Nat} (h : Nat.gcd x y = G) (hG : G % 2 = 1) (hx : x % 2 = 0) : Nat.gcd (x / 2) y = G := by
 obtain ⟨k, rfl⟩ : ∃ k, x = 2 * k := ⟨x / 2, by omega⟩
 rw [Nat.mul_div_cancel_left _ (by decide)]
 have hc : Nat.Coprime G 2 := by
  have : Nat.gcd G 2 = Nat.gcd 2 G := Nat.gcd_comm _ _
  unfold Nat.Coprime
  rw [this, Nat.gcd_rec, hG]; rfl
 apply Nat.dvd_antisymm
 ·
  rw [← h]
  exact Nat.dvd_gcd (Nat.dvd_trans (Nat.gcd_dvd_left k y) (Nat.dvd_mul_left _ _)) (Nat.gcd_dvd_right k y)
 ·
  refine Nat.dvd_gcd (hc.dvd_of_dvd_mul_left ?_) ?_
  · rw [← h]; exact Nat.gcd_dvd_left _ _
  · rw [← h]; exact Nat.gcd_dvd_right _ _
theorem gcd_half_right {x y G : Nat} (h : Nat.gcd x y = G) (hG : G % 2 = 1) (hy : y % 2 = 0) : Nat.gcd x (y / 2) = G := by
 rw [Nat.gcd_comm] at h ⊢
 exact gcd_half_left h hG hy
theorem gcd_halves {x y : Nat} (hx : x % 2 = 0) (hy : y % 2 = 0) : Nat.gcd x y = 2 * Nat.gcd (x / 2) (y / 2) := by
 obtain ⟨k, rfl⟩ : ∃ k, x = 2 * k := ⟨x / 2, by omega⟩
 obtain ⟨l, rfl⟩ : ∃ k, y = 2 * k := ⟨y / 2, by omega⟩
 rw [Nat.mul_div_cancel_left _ (by decide), Nat.mul_div_cancel_left _ (by decide), Nat.gcd_mul_left]
theorem gcd_odd {x y : Nat} (h : ¬ (x % 2 = 0 ∧ y % 2 = 0)) : Nat.gcd x y % 2 = 1 := by
 rcases Nat.mod_two_eq_zero_or_one (Nat.gcd x y) with h0 | h0
 ·
  exfalso
  apply h
  have hd : 2 ∣ Nat.gcd x y := Nat.dvd_of_mod_eq_zero h0
  exact ⟨Nat.mod_eq_zero_of_dvd (Nat.dvd_trans hd (Nat.gcd_dvd_left x y)), Nat.mod_eq_zero_of_dvd (Nat.dvd_trans hd (Nat.gcd_dvd_right x y))⟩
 · exact h0
theorem gcd_less {x y : Nat} (h : x ≤ y) : Nat.gcd x (y - x) = Nat.gcd x y := Nat.gcd_sub_self_right h
open Go.RowKit

theorem val_drop_step (zs : List Nat) (j : Nat) : val (zs.drop j) = zs.getD j 0 + 4294967296 * val (zs.drop (j + 1)) := by
 rw [val_tail (zs.drop j), getD_drop, Nat.add_zero, List.tail_drop]
theorem or_low {x y : Nat} (hx : x < 4294967296) (hy : y < 4294967296) : bits BinOp.or IntKind.u64 ((y : Int) * 4294967296) (x : Int) = ((y * 4294967296 + x : Nat) : Int) := by
 have h := bits_or_u64_nat (y * 4294967296) x (by omega) (by omega)
 rw [show ((y : Int) * 4294967296) = ((y * 4294967296 : Nat) : Int) by omega, h]
 congr 1
 have h2 := Nat.shiftLeft_add_eq_or_of_lt (i := 32) (b := x) (by simpa using hx) y
 rw [Nat.shiftLeft_eq, show (2 ^ 32 : Nat) = 4294967296 from rfl] at h2
 rw [← h2]
theorem div_by_step {zs ys : List Nat} {j l b d r : Nat} (hj : j < ys.length) (h : val (ys.drop (j + 1)) * b + l = val (zs.drop (j + 1))) (hd : (l * 4294967296 + zs.getD j 0) = d * b + r) :
  val ((ys.set j d).drop j) * b + r = val (zs.drop j) := by
 have e1 := val_drop_step (ys.set j d) j
 have e2 : (ys.set j d).drop (j + 1) = ys.drop (j + 1) := List.drop_set_of_lt (by omega)
 rw [getD_set_eq _ _ _ hj, e2] at e1
 rw [e1, val_drop_step zs j, ← h, Nat.add_mul, Nat.mul_add, Nat.mul_assoc]
 omega
theorem grownBy_set {w0 w : World} {g : Nat} (h : w0.grownBy w (some g)) (k : Nat) (u : Value) : w0.grownBy (w.setCell ⟨g, k, none⟩ u) (some g) :=
 ⟨h.os, h.tape, h.output, by simp [World.setCell]; exact h.size, fun j hj hne => by
  rw [heap_setCell_other]
  · exact h.block j hj hne
  · intro e; exact hne (by rw [e])⟩
def ByEnd (B : Nat) (w0 : World) (g cap : Nat) (zs : List Nat) (b : Nat) (e : Ending) (w' : World) : Prop :=
 ∃ ys : List Nat, e = .returned (.int .u32 ((val zs % b : Nat) : Int)) ∧ ys.length = zs.length ∧ Own B 37 w' (.slice (some ⟨g, 0, none⟩) zs.length cap) ys ∧ val ys = val zs / b ∧ w0.grownBy w' (some g)
theorem divideBy_any (zs : List Nat) (B g n cap : Nat) (bI : Int) (w : World) (hc : Own B 37 w (.slice (some ⟨g, 0, none⟩) n cap) zs) (hn : zs.length = n) (hnc : n ≤ cap) (hcm : cap ≤ 9223372036854775807) (hb0 : 0 < bI) (hb1 : bI < 4294967296) :
  Calls Tryz.prog 91 #[.slice (some ⟨g, 0, none⟩) n cap, .int .u32 bI] w fun e w' => ByEnd B w g cap zs bI.toNat e w' := by
 obtain ⟨b, rfl⟩ := Int.eq_ofNat_of_zero_le (Int.le_of_lt hb0)
 rw [Int.toNat_natCast]
 have hbp : 0 < b := by omega
 have hb1' : 1 ≤ (b : Int) := by omega
 have HN : Hid (zs.length = n) := hn
 have HC0 : Hid (Own B 37 w (.slice (some ⟨g, 0, none⟩) n cap) zs) := hc
 have HZ0 : Hid (limbs zs) := hc.1
 clear hn hc
 go_enter Tryz.func91, Tryz.ntmps91
 go_wp2
 go_loopw [5, 6] (fun lv t wr => ∃ (i l : Nat) (ys : List Nat), i ≤ n ∧ t = .int .i64 ((i : Int) - 1) ∧ lv = .int .u64 l ∧ l < b ∧ ys.length = n ∧ Own B 37 wr (.slice (some ⟨g, 0, none⟩) n cap) ys ∧ w.grownBy wr (some g) ∧ (∀ j, j < i → ys.getD j 0 = zs.getD j 0) ∧ val (ys.drop i) * b + l = val (zs.drop i)) (fun _ t _ => (intOf t + 1).toNat)
 case atStart =>
  refine ⟨n, 0, zs, Nat.le_refl _, rfl, rfl, hbp, HN.out, HC0.out, World.grownBy.refl _ _, fun _ _ => rfl, ?_⟩
  rw [List.drop_of_length_le (by rw [HN.out]; exact Nat.le_refl _)]
  simp [val]
 case round =>
  clear HC0
  obtain ⟨i, l, ys, hin, rfl, rfl, hlb, hyl, hcs, hbel, hsame, hinv⟩ := hrel
  have HY : Hid (ys.length = n) := hyl
  have HS : Hid (∀ j, j < i → ys.getD j 0 = zs.getD j 0) := hsame
  have HI : Hid (val (ys.drop i) * b + l = val (zs.drop i)) := hinv
  clear hyl hsame hinv
  by_cases hi0 : 0 < i
  ·
   obtain ⟨j, rfl⟩ : ∃ j, i = j + 1 := ⟨i - 1, by omega⟩
   have ej : ((j + 1 : Nat) : Int) - 1 = (j : Int) := by omega
   rw [ej]
   have hge : (0 : Int) ≤ (j : Int) := by omega
   have hjn : (j : Int) < (n : Int) := by omega
   obtain ⟨cz, hfz⟩ := hcs.cell (k := j) (by rw [HY.out]; omega)
   rw [HS.out j (by omega)] at cz
   have hz0 := limb_lt HZ0.out j
   obtain ⟨z, hz⟩ : ∃ z, z = zs.getD j 0 := ⟨_, rfl⟩
   rw [← hz] at cz hz0
   have HZ : Hid (z = zs.getD j 0) := hz
   have hl32 : l < 4294967296 := by omega
   have eor := or_low hz0 hl32
   obtain ⟨T, hT⟩ : ∃ T, T = l * 4294967296 + z := ⟨_, rfl⟩
   rw [← hT] at eor
   have hT1 : T < 18446744073709551616 := by omega
   have HT : Hid (T = l * 4294967296 + z) := hT
   have hTb : T < b * 4294967296 := by
    have : (l + 1) * 4294967296 ≤ b * 4294967296 := Nat.mul_le_mul_right _ hlb
    omega
   have hd0 : T / b < 4294967296 := Nat.div_lt_of_lt_mul hTb
   have hr0 : T % b < b := Nat.mod_lt _ hbp
   obtain ⟨d, hd⟩ : ∃ d, d = T / b := ⟨_, rfl⟩
   obtain ⟨r, hr⟩ : ∃ r, r = T % b := ⟨_, rfl⟩
   have ed : (T : Int) / (b : Int) = (d : Int) := by rw [hd]; exact (Int.natCast_ediv T b).symm
   have er : (T : Int) % (b : Int) = (r : Int) := by rw [hr]; exact (Int.natCast_emod T b).symm
   have HDR : Hid (T = d * b + r) := by show _ = _; rw [hd, hr, Nat.mul_comm]; exact (Nat.div_add_mod T b).symm
   rw [← hd] at hd0
   rw [← hr] at hr0
   have hset := hcs.set HY.out j d hd0
   have hbel2 := grownBy_set hbel j (U d)
   rw [show U d = .int .u32 (d : Int) from rfl] at hset hbel2
   clear hz hT hTb hd hr hcs hbel
   go_wp2
   go_roundw
   case rel =>
    refine ⟨j, r, _, by omega, by go_num, by go_num, hr0, by rw [List.length_set]; exact HY.out, hset, hbel2, fun q hq => ?_, ?_⟩
    · rw [getD_set_off _ _ _ _ (by omega)]; exact HS.out q (by omega)
    · exact div_by_step (by rw [HY.out]; omega) HI.out (by rw [← HZ.out, ← HT.out]; exact HDR.out)
   case measure => simp [intOf]
  ·
   have hi1 : i = 0 := by omega
   subst hi1
   have hfin := HI.out
   rw [List.drop_zero, List.drop_zero] at hfin
   have h1 : val zs % b = l := by rw [← hfin, Nat.add_comm, Nat.add_mul_mod_self_right, Nat.mod_eq_of_lt hlb]
   have h2 : val ys = val zs / b := by rw [← hfin, Nat.add_comm, Nat.add_mul_div_right _ _ hbp, Nat.div_eq_of_lt hlb, Nat.zero_add]
   have HE : Hid (ByEnd B w g cap zs b (.returned (.int .u32 (l : Int))) wr) := ⟨ys, by rw [h1], by rw [HY.out, HN.out], by rw [HN.out]; exact hcs, h2, hbel⟩
   clear hfin h1 h2 hcs hbel HI
   go_wp2
   go_ret
   exact HE.out

theorem guess_low {part b D N P q : Nat} (hb : D * P ≤ b) (hp : part < (N + 1) * P) (h : q * b ≤ part) : q * D ≤ N := by
 have h1 : q * (D * P) ≤ q * b := Nat.mul_le_mul_left _ hb
 rw [← Nat.mul_assoc] at h1
 have h2 : q * D * P < (N + 1) * P := Nat.lt_of_le_of_lt (Nat.le_trans h1 h) hp
 have := Nat.lt_of_mul_lt_mul_right h2
 omega
theorem guess_high {part b D N P q : Nat} (hb : b < (D + 1) * P) (hp : N * P ≤ part) (h : q * D ≤ N) (hq : q ≤ D + 1) : (q - 1) * b ≤ part := by
 rcases Nat.eq_zero_or_pos q with h0 | h0
 · subst h0; simp
 ·
  obtain ⟨k, rfl⟩ : ∃ k, q = k + 1 := ⟨q - 1, by omega⟩
  rw [Nat.add_sub_cancel]
  have h1 : k * b ≤ k * ((D + 1) * P) := Nat.mul_le_mul_left _ (Nat.le_of_lt hb)
  have h2 : k * (D + 1) ≤ N := by
   rw [Nat.mul_add, Nat.mul_one]
   rw [Nat.add_mul, Nat.one_mul] at h
   omega
  rw [← Nat.mul_assoc] at h1
  exact Nat.le_trans h1 (Nat.le_trans (Nat.mul_le_mul_right _ h2) hp)
theorem out_lit (P x : Nat) : P * 4294967296 * x = 4294967296 * (P * x) := by rw [Nat.mul_right_comm, Nat.mul_comm]
theorem out_lit2 (P x : Nat) : x * 4294967296 * P = 4294967296 * (P * x) := by rw [Nat.mul_right_comm, Nat.mul_comm, Nat.mul_comm x P]
theorem top_two {b : List Nat} {n : Nat} (hb : limbs b) (hl : b.length = n + 2) : (b.getD (n + 1) 0 * 4294967296 + b.getD n 0) * 4294967296 ^ n ≤ val b ∧ val b < (b.getD (n + 1) 0 * 4294967296 + b.getD n 0 + 1) * 4294967296 ^ n := by
 have e1 := low_succ b n
 have e2 := low_succ b (n + 1)
 rw [low_all (by omega), e1, Nat.pow_succ, out_lit] at e2
 have h := low_lt hb n
 generalize 4294967296 ^ n = P at *
 generalize b.getD (n + 1) 0 = x at *
 generalize b.getD n 0 = y at *
 rw [Nat.add_mul (x * 4294967296 + y) 1 P, Nat.one_mul, Nat.add_mul, out_lit2, Nat.mul_comm y P]
 omega
theorem top_three {p : List Nat} {n : Nat} (hp : limbs p) (hl : p.length = n + 3) : ((p.getD (n + 2) 0 * 4294967296 + p.getD (n + 1) 0) * 4294967296 + p.getD n 0) * 4294967296 ^ n ≤ val p ∧ val p < ((p.getD (n + 2) 0 * 4294967296 + p.getD (n + 1) 0) * 4294967296 + p.getD n 0 + 1) * 4294967296 ^ n := by
 have e1 := low_succ p n
 have e2 := low_succ p (n + 1)
 have e3 := low_succ p (n + 2)
 have hp1 : 4294967296 ^ (n + 1) = 4294967296 ^ n * 4294967296 := Nat.pow_succ ..
 have hp2 : 4294967296 ^ (n + 2) = 4294967296 ^ n * 4294967296 * 4294967296 := by rw [Nat.pow_succ, Nat.pow_succ]
 rw [show n + 2 + 1 = n + 3 from rfl, low_all (by omega), show n + 2 = n + 1 + 1 from rfl, e2, e1, show n + 1 + 1 = n + 2 from rfl, hp1, hp2, out_lit, out_lit (4294967296 ^ n * 4294967296), out_lit] at e3
 have h := low_lt hp n
 generalize 4294967296 ^ n = P at *
 generalize p.getD (n + 2) 0 = x at *
 generalize p.getD (n + 1) 0 = y at *
 generalize p.getD n 0 = z at *
 rw [Nat.add_mul ((x * 4294967296 + y) * 4294967296 + z) 1 P, Nat.one_mul, Nat.add_mul, out_lit2, Nat.mul_comm z P, Nat.mul_add P, Nat.mul_comm P (x * 4294967296), out_lit2]
 omega
theorem carry_step {b : List Nat} {q i m : Nat} (h : m = low b i * q / 4294967296 ^ i) : (m + b.getD i 0 * q) / 4294967296 = low b (i + 1) * q / 4294967296 ^ (i + 1) := by
 rw [low_succ, Nat.add_mul, Nat.pow_succ, ← Nat.div_div_eq_div_mul, Nat.mul_assoc, Nat.add_mul_div_left _ _ (Nat.pow_pos (by decide)), ← h]
theorem carry_lt {b : List Nat} (hb : limbs b) {q : Nat} (hq : q < 4294967296) (i : Nat) : low b i * q / 4294967296 ^ i < 4294967296 := by
 apply Nat.div_lt_of_lt_mul
 exact Nat.mul_lt_mul'' (low_lt hb i) hq
theorem carry_end {b : List Nat} (hb : limbs b) {q : Nat} (hq : q < 4294967296) : low b (b.length + 1) * q / 4294967296 ^ (b.length + 1) = 0 := by
 rw [low_all (by omega)]
 apply Nat.div_eq_of_lt
 rw [Nat.pow_succ]
 exact Nat.mul_lt_mul'' (val_lt hb) hq
open Go.RowKit

theorem Num.grown {w w' : World} {ao : Option Addr} {k cap g : Nat} {xs : List Nat} (h : Num w (.slice ao k cap) xs) (hne : ∀ a, ao = some a → a.block ≠ g) (hg : w.grownBy w' (some g)) : Num w' (.slice ao k cap) xs := by
 obtain ⟨h0, ao', cap', e, h1, h2, h3, h4⟩ := h
 simp only [Value.slice.injEq] at e
 obtain ⟨rfl, e2, rfl⟩ := e
 refine ⟨h0, ao, cap, by rw [e2], h1, h2, h3, fun j hj => ?_⟩
 obtain ⟨b, off, e, hc⟩ := h4 j hj
 refine ⟨b, off, e, ?_⟩
 exact hg.cell hc (by have := hne _ e; simp only [ne_eq, Option.some.injEq]; exact this)
def TakeEnd (w0 : World) (g off n : Nat) (zs b : List Nat) (q : Nat) (e : Ending) (w' : World) : Prop :=
 ∃ (zs' : List Nat) (t : Nat), e = .returned (.bool ((t : Int) != 0)) ∧ t ≤ 1 ∧ zs'.length = zs.length ∧ Cells w' g zs' ∧ w0.grownBy w' (some g) ∧
  (∀ j, j < off ∨ off + n ≤ j → zs'.getD j 0 = zs.getD j 0) ∧ low (zs'.drop off) n + val b * q = low (zs.drop off) n + 4294967296 ^ n * t
theorem takeTimes_any (ao : Option Addr) (kb capb : Nat) (b zs : List Nat) (g off m cap : Nat) (qI : Int) (w0 w : World) (hb : Num w0 (.slice ao kb capb) b) (hne : ∀ a, ao = some a → a.block ≠ g) (hg : w0.grownBy w (some g)) (hc : Cells w g zs)
  (hm : m = b.length + 1) (hoff : off + m ≤ zs.length) (hmc : m ≤ cap) (hcm : cap ≤ 9223372036854775807) (hq0 : 0 ≤ qI) (hq1 : qI < 4294967296) :
  Calls Tryz.prog 148 #[.slice (some ⟨g, off, none⟩) m cap, .slice ao kb capb, .int .u32 qI] w fun e w' => TakeEnd w0 g off m zs b qI.toNat e w' := by
 obtain ⟨q, rfl⟩ := Int.eq_ofNat_of_zero_le hq0
 rw [Int.toNat_natCast]
 have hq32 : q < 4294967296 := by omega
 have HM : Hid (m = b.length + 1) := hm
 have HC0 : Hid (Cells w g zs) := hc
 have HG0 : Hid (w0.grownBy w (some g)) := hg
 have HNE : Hid (∀ a, ao = some a → a.block ≠ g) := hne
 clear hm hc hg hne hq0
 go_enter Tryz.func148, Tryz.ntmps148
 go_wp2
 go_loopw [7, 8, 13] (fun cv bv t wr => ∃ (i c bw : Nat) (ys : List Nat), i ≤ m ∧ t = .int .i64 i ∧ cv = .int .u64 c ∧ bv = .int .u64 bw ∧ c = low b i * q / 4294967296 ^ i ∧ bw ≤ 1 ∧ ys.length = zs.length ∧ Cells wr g ys ∧ w0.grownBy wr (some g) ∧ (∀ j, j < off ∨ off + i ≤ j → ys.getD j 0 = zs.getD j 0) ∧ low (zs.drop off) i * 1 + 4294967296 ^ i * (c + bw) = low b i * q + low (ys.drop off) i + 4294967296 ^ i * 0) (fun _ _ t _ => m - (intOf t).toNat)
 case atStart => exact ⟨0, 0, 0, zs, Nat.zero_le _, rfl, rfl, rfl, by simp [low_zero], by omega, rfl, HC0.out, HG0.out, fun _ _ => rfl, by simp [low_zero]⟩
 case round =>
  clear HC0 HG0
  obtain ⟨i, c, bw, ys, him, rfl, rfl, rfl, hce, hbw, hyl, hcs, hgr, hout, hinv⟩ := hrel
  have HCE : Hid (c = low b i * q / 4294967296 ^ i) := hce
  have HY : Hid (ys.length = zs.length) := hyl
  have HO : Hid (∀ j, j < off ∨ off + i ≤ j → ys.getD j 0 = zs.getD j 0) := hout
  have HI : Hid (low (zs.drop off) i * 1 + 4294967296 ^ i * (c + bw) = low b i * q + low (ys.drop off) i + 4294967296 ^ i * 0) := hinv
  have hc32 : c < 4294967296 := by rw [hce]; exact carry_lt hb.1 hq32 i
  clear hce hyl hout hinv
  by_cases hlt : i < m
  ·
   have hlt' : (i : Int) < (m : Int) := by omega
   have nb2 := hb.grown HNE.out hgr
   obtain ⟨cz, hfz⟩ := hcs.cell (k := off + i) (by rw [HY.out]; omega)
   have hx0 := limb_lt hcs.1 (off + i)
   have hy0 := limb_lt hb.1 i
   obtain ⟨x, hx⟩ : ∃ x, x = ys.getD (off + i) 0 := ⟨_, rfl⟩
   obtain ⟨y, hy⟩ : ∃ y, y = b.getD i 0 := ⟨_, rfl⟩
   rw [← hx] at cz hx0
   rw [← hy] at hy0
   have HX : Hid (x = (zs.drop off).getD i 0) := by show _ = _; rw [hx, getD_drop]; exact HO.out _ (by omega)
   have HYY : Hid (y = b.getD i 0) := hy
   have sb := mul_bound hy0 hq32
   obtain ⟨s, hs⟩ : ∃ s, s = y * q := ⟨_, rfl⟩
   rw [← hs] at sb
   have es : (y : Int) * (q : Int) = (s : Int) := by rw [hs]; exact (Int.natCast_mul y q).symm
   have HS : Hid (s = y * q) := hs
   have em := and_mask (c + s) (by omega)
   obtain ⟨MM, hMM⟩ : ∃ MM, MM = (c + s) % 4294967296 := ⟨_, rfl⟩
   rw [← hMM, Int.natCast_add] at em
   obtain ⟨D1, D, b', dl, e1, e2, hD, e3, e4, hb', hdl, heq⟩ := sub_wrap x MM bw hx0 (by omega) hbw
   have HMM : Hid (MM = (c + s) % 4294967296) := hMM
   have HEQ : Hid (x + 4294967296 * b' = MM + bw + dl) := heq
   have hset := hcs.set (off + i) dl hdl
   have hgr2 := grownBy_set hgr (off + i) (U dl)
   rw [show U dl = .int .u32 (dl : Int) from rfl] at hset hgr2
   clear hx hy hs hMM heq hcs hgr
   go_wp2_with fail
   refine (limb_any _ _ _ _ nb2 (by omega)).mono ?_
   rintro e w3 ⟨rfl, rfl⟩
   rw [Int.toNat_natCast, ← HYY.out]
   clear nb2
   go_wp2
   go_roundw
   case rel =>
    refine ⟨i + 1, (c + s) / 4294967296, b', _, by omega, by go_num, by go_num, by go_num, ?_, hb', by rw [List.length_set]; exact HY.out, hset, hgr2, fun j hj => ?_, ?_⟩
    · rw [HS.out, HYY.out]; exact carry_step HCE.out
    · rw [getD_set_off _ _ _ _ (by omega)]; exact HO.out j (by omega)
    ·
     have := blend_step (xs := zs.drop off) (ys := b) (zs := ys.drop off) (i := i) (u := 1) (v := q) (p := 0) (m := c) (b := bw) (d := dl) (by simp; rw [HY.out]; omega) HI.out b' (by rw [← HX.out, ← HYY.out, ← HS.out, ← HMM.out, Nat.zero_add, Nat.mul_one, Nat.mod_eq_of_lt hx0]; exact HEQ.out)
     rw [← HX.out, ← HYY.out, ← HS.out, ← drop_set_add, Nat.zero_add, Nat.mul_one x, Nat.div_eq_of_lt hx0] at this
     exact this
   case measure => simp [intOf]; omega
  ·
   have hlt' : ¬ (i : Int) < (m : Int) := by omega
   have hi : i = m := by omega
   have HE : Hid (TakeEnd w0 g off m zs b q (.returned (.bool ((bw : Int) != 0))) wr) := by
    refine ⟨ys, bw, rfl, hbw, HY.out, hcs, hgr, by rw [← hi]; exact HO.out, ?_⟩
    have hI := HI.out
    have hC := HCE.out
    rw [hi, HM.out, carry_end hb.1 hq32] at hC
    rw [hC, hi, low_all (xs := b) (by rw [HM.out]; omega), Nat.zero_add, Nat.mul_zero] at hI
    omega
   clear hi hcs hgr HI HO HCE
   go_wp2
   go_ret
   exact HE.out
def PutEnd (w0 : World) (g off n : Nat) (zs b : List Nat) (e : Ending) (w' : World) : Prop :=
 ∃ (zs' : List Nat) (c : Nat), e = .returned (.tuple #[]) ∧ zs'.length = zs.length ∧ Cells w' g zs' ∧ w0.grownBy w' (some g) ∧
  (∀ j, j < off ∨ off + n ≤ j → zs'.getD j 0 = zs.getD j 0) ∧ low (zs'.drop off) n + 4294967296 ^ n * c = low (zs.drop off) n + val b
theorem putBack_any (ao : Option Addr) (kb capb : Nat) (b zs : List Nat) (g off m cap : Nat) (w0 w : World) (hb : Num w0 (.slice ao kb capb) b) (hne : ∀ a, ao = some a → a.block ≠ g) (hg : w0.grownBy w (some g)) (hc : Cells w g zs)
  (hm : m = b.length + 1) (hoff : off + m ≤ zs.length) (hmc : m ≤ cap) (hcm : cap ≤ 9223372036854775807) :
  Calls Tryz.prog 149 #[.slice (some ⟨g, off, none⟩) m cap, .slice ao kb capb] w fun e w' => PutEnd w0 g off m zs b e w' := by
 have HM : Hid (m = b.length + 1) := hm
 have HC0 : Hid (Cells w g zs) := hc
 have HG0 : Hid (w0.grownBy w (some g)) := hg
 have HNE : Hid (∀ a, ao = some a → a.block ≠ g) := hne
 clear hm hc hg hne
 go_enter Tryz.func149, Tryz.ntmps149
 go_wp2
 go_loopw [4, 8] (fun cv t wr => ∃ (i c : Nat) (ys : List Nat), i ≤ m ∧ t = .int .i64 i ∧ cv = .int .u64 c ∧ c ≤ 1 ∧ ys.length = zs.length ∧ Cells wr g ys ∧ w0.grownBy wr (some g) ∧ (∀ j, j < off ∨ off + i ≤ j → ys.getD j 0 = zs.getD j 0) ∧ low (ys.drop off) i + 4294967296 ^ i * c = low (zs.drop off) i + low b i) (fun _ t _ => m - (intOf t).toNat)
 case atStart => exact ⟨0, 0, zs, Nat.zero_le _, rfl, rfl, by omega, rfl, HC0.out, HG0.out, fun _ _ => rfl, by simp [low_zero]⟩
 case round =>
  clear HC0 HG0
  obtain ⟨i, c, ys, him, rfl, rfl, hc1, hyl, hcs, hgr, hout, hinv⟩ := hrel
  have HY : Hid (ys.length = zs.length) := hyl
  have HO : Hid (∀ j, j < off ∨ off + i ≤ j → ys.getD j 0 = zs.getD j 0) := hout
  have HI : Hid (low (ys.drop off) i + 4294967296 ^ i * c = low (zs.drop off) i + low b i) := hinv
  clear hyl hout hinv
  by_cases hlt : i < m
  ·
   have hlt' : (i : Int) < (m : Int) := by omega
   have nb2 := hb.grown HNE.out hgr
   obtain ⟨cz, hfz⟩ := hcs.cell (k := off + i) (by rw [HY.out]; omega)
   have hx0 := limb_lt hcs.1 (off + i)
   have hy0 := limb_lt hb.1 i
   obtain ⟨x, hx⟩ : ∃ x, x = ys.getD (off + i) 0 := ⟨_, rfl⟩
   obtain ⟨y, hy⟩ : ∃ y, y = b.getD i 0 := ⟨_, rfl⟩
   rw [← hx] at cz hx0
   rw [← hy] at hy0
   have HX : Hid (x = (zs.drop off).getD i 0) := by show _ = _; rw [hx, getD_drop]; exact HO.out _ (by omega)
   have HYY : Hid (y = b.getD i 0) := hy
   have hlim : ∀ W, W.heap = wr.heap → Calls Tryz.prog 115 #[.slice ao kb capb, .int .i64 (i : Int)] W fun e w' => e = .returned (.int .u64 (y : Int)) ∧ w' = W := fun W hW => by
    have := limb_any _ _ (i : Int) W (nb2.same hW) (by omega)
    rw [Int.toNat_natCast, ← hy] at this
    exact this
   have HLIM : Hid (∀ W, W.heap = wr.heap → Calls Tryz.prog 115 #[.slice ao kb capb, .int .i64 (i : Int)] W fun e w' => e = .returned (.int .u64 (y : Int)) ∧ w' = W) := hlim
   clear hx hy hlim nb2
   go_wp2
   go_quiet ((go_at_call 115; exact Calls.quiet_of_same (HLIM.out _ (heap_drewN _ _))))
   have hcs2 : Cells (wr.drewN nq) g ys := ⟨hcs.1, by rw [heap_drewN]; exact hcs.2⟩
   have hgr2 : w0.grownBy (wr.drewN nq) (some g) := ⟨(below_drewN (Below.refl 0 wr) nq).os.trans hgr.os, (below_drewN (Below.refl 0 wr) nq).tape.trans hgr.tape, (below_drewN (Below.refl 0 wr) nq).output.trans hgr.output, by rw [heap_drewN]; exact hgr.size, fun k hk hne => by rw [heap_drewN]; exact hgr.block k hk hne⟩
   clear hcs hgr cz hfz HLIM
   generalize wr.drewN nq = W at *
   obtain ⟨cz, hfz⟩ := hcs2.cell (k := off + i) (by rw [HY.out]; omega)
   have hset := hcs2.set (off + i) ((c + (x + y)) % 4294967296) (by omega)
   have hgr3 := grownBy_set hgr2 (off + i) (U ((c + (x + y)) % 4294967296))
   rw [show U ((c + (x + y)) % 4294967296) = .int .u32 (((c : Int) + ((x : Int) + (y : Int))) % 4294967296) by simp [U]] at hset hgr3
   obtain ⟨z, hz⟩ : ∃ z, z = ys.getD (off + i) 0 := ⟨_, rfl⟩
   rw [← hz] at cz
   clear hcs2 hgr2 hz
   go_wp2
   go_roundw
   case rel =>
    refine ⟨i + 1, (c + (x + y)) / 4294967296, _, by omega, by go_num, by go_num, by omega, by rw [List.length_set]; exact HY.out, hset, hgr3, fun j hj => ?_, ?_⟩
    · rw [getD_set_off _ _ _ _ (by omega)]; exact HO.out j (by omega)
    ·
     rw [drop_set_add, HX.out, HYY.out]
     exact add_step (by simp; rw [HY.out]; omega) HI.out
   case measure => simp [intOf]; omega
  ·
   have hlt' : ¬ (i : Int) < (m : Int) := by omega
   have hi : i = m := by omega
   have HE : Hid (PutEnd w0 g off m zs b (.returned (.tuple #[])) wr) := by
    refine ⟨ys, c, rfl, HY.out, hcs, hgr, by rw [← hi]; exact HO.out, ?_⟩
    have hI := HI.out
    rw [hi, low_all (xs := b) (by rw [HM.out]; omega)] at hI
    exact hI
   clear hi hcs hgr HI HO
   go_wp2
   go_end0
   exact HE.out
open Go.RowKit

theorem mul_pair (Q hi nx : Nat) : Q * (hi * 4294967296 + nx) = 4294967296 * (Q * hi) + Q * nx := by rw [Nat.mul_add, ← Nat.mul_assoc, Nat.mul_comm (Q * hi)]
theorem g_dec {QT Q L hi nx T p2 : Nat} (h1 : QT * (hi * 4294967296 + nx) ≤ T * 4294967296 + p2) (h2 : Q * hi + L = T) (h3 : L * 4294967296 + p2 < Q * nx) : QT + 1 ≤ Q := by
 rcases Nat.lt_or_ge QT Q with h | h
 · exact h
 ·
  have h4 : Q * (hi * 4294967296 + nx) ≤ QT * (hi * 4294967296 + nx) := Nat.mul_le_mul_right _ h
  rw [mul_pair Q] at h4
  omega
theorem g_fit {Q L hi nx T p2 : Nat} (h2 : Q * hi + L = T) (h3 : Q * nx ≤ L * 4294967296 + p2) : Q * (hi * 4294967296 + nx) ≤ T * 4294967296 + p2 := by
 rw [mul_pair]; omega
theorem g_pred {Q L hi T : Nat} (h : Q * hi + L = T) (hQ : 1 ≤ Q) : (Q - 1) * hi + (L + hi) = T := by
 obtain ⟨k, rfl⟩ : ∃ k, Q = k + 1 := ⟨Q - 1, by omega⟩
 rw [Nat.add_mul, Nat.one_mul] at h
 rw [Nat.add_sub_cancel]; omega
theorem g_limb {Q L hi T p0 p1 : Nat} (h : Q * hi + L = T) (hT : T = p0 * 4294967296 + p1) (hp0 : p0 ≤ hi) (hp1 : p1 < 4294967296) (hL : 4294967296 ≤ L) : Q < 4294967296 := by
 rcases Nat.lt_or_ge Q 4294967296 with h1 | h1
 · exact h1
 ·
  have h2 : 4294967296 * hi ≤ Q * hi := Nat.mul_le_mul_right _ h1
  omega
theorem ret_int {k : IntKind} {a b : Int} (h : a = b) : Ending.returned (.int k a) = .returned (.int k b) := by rw [h]
def GuessOk (p b q : Nat) : Prop := q < 4294967296 ∧ (q - 1) * b ≤ p ∧ p < (q + 1) * b
theorem guess_done {p b : List Nat} {n q : Nat} (hp : limbs p) (hb : limbs b) (hpl : p.length = n + 3) (hbl : b.length = n + 2) (hhi : 2147483648 ≤ b.getD (n + 1) 0) (hq : q < 4294967296) (hge : val p / val b ≤ q)
  (hfit : q * (b.getD (n + 1) 0 * 4294967296 + b.getD n 0) ≤ (p.getD (n + 2) 0 * 4294967296 + p.getD (n + 1) 0) * 4294967296 + p.getD n 0) : GuessOk (val p) (val b) q := by
 have h1 := top_two hb hbl
 have h2 := top_three hp hpl
 have hbp : 0 < val b := by
  have : 0 < 4294967296 ^ n := Nat.pow_pos (by decide)
  have h3 : 1 * 4294967296 ^ n ≤ (b.getD (n + 1) 0 * 4294967296 + b.getD n 0) * 4294967296 ^ n := Nat.mul_le_mul_right _ (by omega)
  omega
 refine ⟨hq, guess_high h1.2 h2.1 hfit (by omega), ?_⟩
 have h4 := Nat.lt_mul_div_succ (val p) hbp
 have h5 : (val p / val b + 1) * val b ≤ (q + 1) * val b := Nat.mul_le_mul_right _ (by omega)
 rw [Nat.mul_comm] at h4
 omega
theorem quo_low {p b : List Nat} {n : Nat} (hp : limbs p) (hb : limbs b) (hpl : p.length = n + 3) (hbl : b.length = n + 2) :
  val p / val b * (b.getD (n + 1) 0 * 4294967296 + b.getD n 0) ≤ (p.getD (n + 2) 0 * 4294967296 + p.getD (n + 1) 0) * 4294967296 + p.getD n 0 :=
 guess_low (top_two hb hbl).1 (top_three hp hpl).2 (Nat.div_mul_le_self _ _)
theorem top_le {p b : List Nat} {n : Nat} (hb : limbs b) (hpl : p.length = n + 3) (hbl : b.length = n + 2) (h : val p < 4294967296 * val b) : p.getD (n + 2) 0 ≤ b.getD (n + 1) 0 := by
 have e1 := low_succ p (n + 2)
 have e2 := low_succ b (n + 1)
 have l2 := low_lt hb (n + 1)
 rw [low_all (by omega)] at e1 e2
 have hp1 : (4294967296 : Nat) ^ (n + 2) = 4294967296 * 4294967296 ^ (n + 1) := by rw [Nat.pow_succ _ (n + 1), Nat.mul_comm]
 rw [hp1] at e1
 generalize 4294967296 ^ (n + 1) = P at *
 rcases Nat.lt_or_ge (b.getD (n + 1) 0) (p.getD (n + 2) 0) with hlt | hge
 ·
  have h3 : 4294967296 * P * (b.getD (n + 1) 0 + 1) ≤ 4294967296 * P * p.getD (n + 2) 0 := Nat.mul_le_mul_left _ hlt
  rw [Nat.mul_add, Nat.mul_one, Nat.mul_assoc] at h3
  have h4 : 4294967296 * P * p.getD (n + 2) 0 ≤ val p := by omega
  omega
 · exact hge
theorem guess_any (pa ba : Option Addr) (n pcap bcap : Nat) (p b : List Nat) (w : World) (hp : Num w (.slice pa (n + 3) pcap) p) (hb : Num w (.slice ba (n + 2) bcap) b) (hpl : p.length = n + 3) (hbl : b.length = n + 2) (hn : n ≤ 1099511627776)
  (hhi : 2147483648 ≤ b.getD (n + 1) 0) (hlt : val p < 4294967296 * val b) :
  Calls Tryz.prog 147 #[.slice pa (n + 3) pcap, .slice ba (n + 2) bcap] w fun e w' => (∃ q : Nat, e = .returned (.int .u32 (q : Int)) ∧ GuessOk (val p) (val b) q) ∧ ∃ k, w' = w.drewN k := by
 have HQL : Hid (val p / val b * (b.getD (n + 1) 0 * 4294967296 + b.getD n 0) ≤ (p.getD (n + 2) 0 * 4294967296 + p.getD (n + 1) 0) * 4294967296 + p.getD n 0) := quo_low hp.1 hb.1 hpl hbl
 have htl := top_le hb.1 hpl hbl hlt
 have hQT : val p / val b < 4294967296 := Nat.div_lt_of_lt_mul (by rw [Nat.mul_comm]; exact hlt)
 have HFIN : Hid (∀ q, q < 4294967296 → val p / val b ≤ q → q * (b.getD (n + 1) 0 * 4294967296 + b.getD n 0) ≤ (p.getD (n + 2) 0 * 4294967296 + p.getD (n + 1) 0) * 4294967296 + p.getD n 0 → GuessOk (val p) (val b) q) := fun q h1 h2 h3 => guess_done hp.1 hb.1 hpl hbl hhi h1 h2 h3
 obtain ⟨_, pa', pc', ep, hpc, hpm, _, cp⟩ := hp.open_
 obtain ⟨_, ba', bc', eb, hbc, hbm, _, cb⟩ := hb.open_
 simp only [Value.slice.injEq] at ep eb
 obtain ⟨rfl, q1, rfl⟩ := ep
 obtain ⟨rfl, q2, rfl⟩ := eb
 obtain ⟨bb, bo, rfl, c1⟩ := cb (n + 1) (by omega)
 obtain ⟨bb', bo', eb', c0⟩ := cb n (by omega)
 simp only [Option.some.injEq, Addr.mk.injEq, and_true] at eb'
 obtain ⟨rfl, rfl⟩ := eb'
 obtain ⟨pb, po, rfl, d2⟩ := cp (n + 2) (by omega)
 obtain ⟨pb', po', ep', d1⟩ := cp (n + 1) (by omega)
 simp only [Option.some.injEq, Addr.mk.injEq, and_true] at ep'
 obtain ⟨rfl, rfl⟩ := ep'
 obtain ⟨pb', po', ep', d0⟩ := cp n (by omega)
 simp only [Option.some.injEq, Addr.mk.injEq, and_true] at ep'
 obtain ⟨rfl, rfl⟩ := ep'
 have l1 := limb_lt hb.1 (n + 1)
 have l0 := limb_lt hb.1 n
 have k2 := limb_lt hp.1 (n + 2)
 have k1 := limb_lt hp.1 (n + 1)
 have k0 := limb_lt hp.1 n
 rw [hpl] at hpc
 rw [hbl] at hbc
 generalize b.getD (n + 1) 0 = hi at *
 generalize b.getD n 0 = nx at *
 generalize p.getD (n + 2) 0 = p0 at *
 generalize p.getD (n + 1) 0 = p1 at *
 generalize p.getD n 0 = p2 at *
 clear cp cb hp hb q1 q2 hpl hbl hlt
 generalize val p / val b = QT at *
 have eor := or_low k1 k2
 obtain ⟨T, hT⟩ : ∃ T, T = p0 * 4294967296 + p1 := ⟨_, rfl⟩
 rw [← hT] at eor
 have HT : Hid (T = p0 * 4294967296 + p1) := hT
 have hT1 : T ≤ 18446744073709551615 := by omega
 have hi1 : 1 ≤ (hi : Int) := by omega
 have hiz : ((hi : Int) == 0) = false := by simp; omega
 obtain ⟨Q0, hQ0⟩ : ∃ Q, Q = T / hi := ⟨_, rfl⟩
 obtain ⟨L0, hL0⟩ : ∃ L, L = T % hi := ⟨_, rfl⟩
 have eq0 : (T : Int) / (hi : Int) = (Q0 : Int) := by rw [hQ0]; exact (Int.natCast_ediv T hi).symm
 have el0 : (T : Int) % (hi : Int) = (L0 : Int) := by rw [hL0]; exact (Int.natCast_emod T hi).symm
 have hst : Q0 * hi + L0 = T := by rw [hQ0, hL0, Nat.mul_comm]; exact Nat.div_add_mod T hi
 have hL1 : L0 < 4294967296 := by have := Nat.mod_lt T (show 0 < hi by omega); omega
 have hQ1 : QT ≤ Q0 := by
  have h1 := HQL.out
  rw [hQ0, Nat.le_div_iff_mul_le (by omega)]
  rw [mul_pair, ← HT.out] at h1
  omega
 have hQ2 : Q0 ≤ 18446744073709551615 := by rw [hQ0]; exact Nat.le_trans (Nat.div_le_self _ _) hT1
 have HST : Hid (Q0 * hi + L0 = T) := hst
 clear hQ0 hL0 hT hst
 go_enter Tryz.func147, Tryz.ntmps147
 go_wp2
 go_quiet (fail)
 have cv : ∀ (a : Addr) (v : Value), w.cell? a = some v → (w.drewN nq).cell? a = some v := fun a v h => by rw [← h]; exact World.cell?_of_block (by rw [heap_drewN])
 replace c1 := cv _ _ c1
 replace c0 := cv _ _ c0
 replace d2 := cv _ _ d2
 replace d1 := cv _ _ d1
 replace d0 := cv _ _ d0
 have HW : Hid (∃ k, w.drewN nq = w.drewN k) := ⟨_, rfl⟩
 clear cv
 generalize hW1 : w.drewN nq = W1 at c1 c0 d2 d1 d0 HW ⊢
 clear hW1
 go_wp2
 go_quiet (fail)
 have cv : ∀ (a : Addr) (v : Value), W1.cell? a = some v → (W1.drewN nq).cell? a = some v := fun a v h => by rw [← h]; exact World.cell?_of_block (by rw [heap_drewN])
 replace c1 := cv _ _ c1
 replace c0 := cv _ _ c0
 replace d2 := cv _ _ d2
 replace d1 := cv _ _ d1
 replace d0 := cv _ _ d0
 replace HW : Hid (∃ k, W1.drewN nq = w.drewN k) := by obtain ⟨k, hk⟩ := HW.out; exact ⟨_, by rw [hk, World.drewN_drewN]⟩
 clear cv
 generalize hW2 : W1.drewN nq = W2 at c1 c0 d2 d1 d0 HW ⊢
 clear hW2
 go_wp2
 go_quiet (fail)
 have cv : ∀ (a : Addr) (v : Value), W2.cell? a = some v → (W2.drewN nq).cell? a = some v := fun a v h => by rw [← h]; exact World.cell?_of_block (by rw [heap_drewN])
 replace c1 := cv _ _ c1
 replace c0 := cv _ _ c0
 replace d2 := cv _ _ d2
 replace d1 := cv _ _ d1
 replace d0 := cv _ _ d0
 replace HW : Hid (∃ k, W2.drewN nq = w.drewN k) := by obtain ⟨k, hk⟩ := HW.out; exact ⟨_, by rw [hk, World.drewN_drewN]⟩
 clear cv
 generalize hW3 : W2.drewN nq = W3 at c1 c0 d2 d1 d0 HW ⊢
 clear hW3
 go_wp2
 go_loop [9, 10] (fun qv lv => ∃ (Q L : Nat), qv = .int .u64 Q ∧ lv = .int .u64 L ∧ Q * hi + L = T ∧ L < 4294967296 ∧ QT ≤ Q ∧ Q ≤ 18446744073709551615) (fun qv _ => (intOf qv).toNat)
 case atStart => exact ⟨Q0, L0, by first | rfl | rw [eq0], by first | rfl | rw [el0], HST.out, hL1, hQ1, hQ2⟩
 case round =>
  clear hL1 hQ1 hQ2 HST eq0 el0
  obtain ⟨Q, L, rfl, rfl, hst, hL, hQT1, hQm⟩ := hrel
  have HST : Hid (Q * hi + L = T) := hst
  clear hst
  by_cases hbig : 4294967295 < Q
  ·
   have hbig' : (4294967295 : Int) < (Q : Int) := by omega
   have hQ1' : (1 : Int) ≤ (Q : Int) := by omega
   have HP : Hid ((Q - 1) * hi + (L + hi) = T) := g_pred HST.out (by omega)
   by_cases hbr : 4294967295 < L + hi
   ·
    have hbr' : (4294967295 : Int) < (L : Int) + (hi : Int) := by omega
    have hlim : Q - 1 < 4294967296 := g_limb HP.out HT.out htl k1 (by omega)
    have HG : Hid (GuessOk (val p) (val b) (Q - 1)) := HFIN.out _ hlim (by omega) (by
     rw [← HT.out]
     refine g_fit HP.out ?_
     have := mul_bound hlim l0
     omega)
    go_wp2
    go_ret
    exact ⟨⟨Q - 1, ret_int (by omega), HG.out⟩, HW.out⟩
   ·
    have hbr' : ¬ (4294967295 : Int) < (L : Int) + (hi : Int) := by omega
    go_wp2
    go_round
    case rel => exact ⟨Q - 1, L + hi, by congr 1; omega, by go_num, HP.out, by omega, by omega, by omega⟩
    case measure => simp [intOf]; omega
  ·
   have hbig' : ¬ (4294967295 : Int) < (Q : Int) := by omega
   have hQ32 : Q < 4294967296 := by omega
   have mb := mul_bound hQ32 l0
   obtain ⟨M, hM⟩ : ∃ M, M = Q * nx := ⟨_, rfl⟩
   rw [← hM] at mb
   have eM : (Q : Int) * (nx : Int) = (M : Int) := by rw [hM]; exact (Int.natCast_mul Q nx).symm
   have eor2 := or_low k0 hL
   obtain ⟨S, hS⟩ : ∃ S, S = L * 4294967296 + p2 := ⟨_, rfl⟩
   rw [← hS] at eor2
   have hS1 : S ≤ 18446744073709551615 := by omega
   have HM : Hid (M = Q * nx) := hM
   have HS : Hid (S = L * 4294967296 + p2) := hS
   clear hM hS
   by_cases hgt : S < M
   ·
    have hgt' : (S : Int) < (M : Int) := by omega
    have hQS : QT + 1 ≤ Q := g_dec (by have h1 := HQL.out; rw [← HT.out] at h1; exact h1) HST.out (by rw [← HS.out, ← HM.out]; exact hgt)
    have hQ1' : (1 : Int) ≤ (Q : Int) := by omega
    have HP : Hid ((Q - 1) * hi + (L + hi) = T) := g_pred HST.out (by omega)
    by_cases hbr : 4294967295 < L + hi
    ·
     have hbr' : (4294967295 : Int) < (L : Int) + (hi : Int) := by omega
     have hlim : Q - 1 < 4294967296 := g_limb HP.out HT.out htl k1 (by omega)
     have HG : Hid (GuessOk (val p) (val b) (Q - 1)) := HFIN.out _ hlim (by omega) (by
      rw [← HT.out]
      refine g_fit HP.out ?_
      have := mul_bound hlim l0
      omega)
     go_wp2
     go_ret
     exact ⟨⟨Q - 1, ret_int (by omega), HG.out⟩, HW.out⟩
    ·
     have hbr' : ¬ (4294967295 : Int) < (L : Int) + (hi : Int) := by omega
     go_wp2
     go_round
     case rel => exact ⟨Q - 1, L + hi, by congr 1; omega, by go_num, HP.out, by omega, by omega, by omega⟩
     case measure => simp [intOf]; omega
   ·
    have hgt' : ¬ (S : Int) < (M : Int) := by omega
    have HG : Hid (GuessOk (val p) (val b) Q) := HFIN.out _ hQ32 hQT1 (by
     rw [← HT.out]
     refine g_fit HST.out ?_
     rw [← HM.out, ← HS.out]
     omega)
    go_wp2
    go_ret
    exact ⟨⟨Q, rfl, HG.out⟩, HW.out⟩

theorem long_val {zs zs' : List Nat} {i : Nat} (hi : i ≤ zs.length) (hl : zs'.length = zs.length) (hlo : ∀ j, j < i → zs'.getD j 0 = zs.getD j 0) : val zs' + 4294967296 ^ i * val (zs.drop i) = val zs + 4294967296 ^ i * val (zs'.drop i) := by
 have e1 := val_split zs i hi
 have e2 := val_split zs' i (by omega)
 rw [low_congr hlo] at e2
 omega
theorem low_small {xs : List Nat} (hx : limbs xs) {n : Nat} (h : val xs < 4294967296 ^ n) : low xs n = val xs := by
 have h1 := low_lt hx n
 rcases Nat.lt_or_ge n xs.length with hn | hn
 ·
  have e := val_split xs n (by omega)
  rcases Nat.eq_zero_or_pos (val (xs.drop n)) with h0 | h0
  · rw [h0, Nat.mul_zero, Nat.add_zero] at e; exact e.symm
  ·
   have := Nat.mul_le_mul_left (4294967296 ^ n) h0
   omega
 · exact low_all hn
theorem seg_high {zs zs' : List Nat} {j m : Nat} (hz : limbs zs) (hj : j + m ≤ zs.length) (hl : zs'.length = zs.length) (hs : ∀ k, k < j ∨ j + m ≤ k → zs'.getD k 0 = zs.getD k 0) (h : val (zs.drop j) < 4294967296 ^ m) : val (zs'.drop j) = low (zs'.drop j) m := by
 have e1 := val_split (zs.drop j) m (by simp; omega)
 have e2 := val_split (zs'.drop j) m (by simp; omega)
 rw [low_small (limbs_drop hz j) h] at e1
 have h0 : val ((zs.drop j).drop m) = 0 := by
  rcases Nat.eq_zero_or_pos (val ((zs.drop j).drop m)) with h1 | h1
  · exact h1
  ·
   have := Nat.mul_pos (Nat.pow_pos (n := m) (show 0 < 4294967296 by decide)) h1
   omega
 have h1 : val ((zs'.drop j).drop m) = val ((zs.drop j).drop m) := val_congr zs.length (by simp only [List.length_drop]; omega) (by simp only [List.length_drop]; omega) fun k => by
  rw [getD_drop, getD_drop, getD_drop, getD_drop]
  exact hs _ (Or.inr (by omega))
 rw [h1, h0, Nat.mul_zero, Nat.add_zero] at e2
 exact e2
theorem take_right {r r' b q M : Nat} (h : r' + b * q = r + M * 0) (hq : r < (q + 1) * b) : r' < b ∧ r' + q * b = r := by
 rw [Nat.mul_zero, Nat.add_zero, Nat.mul_comm b q] at h
 rw [Nat.add_mul, Nat.one_mul] at hq
 omega
theorem take_back {r r' r2 b q M c : Nat} (h : r' + b * q = r + M * 1) (hr' : r' < M) (h2 : r2 + M * c = r' + b) (hr2 : r2 < M) (hq : (q - 1) * b ≤ r) (hbM : b < M) : 1 ≤ q ∧ r2 < b ∧ r2 + (q - 1) * b = r := by
 have hq1 : 1 ≤ q := by
  rcases Nat.eq_zero_or_pos q with h0 | h0
  · subst h0; rw [Nat.mul_zero] at h; omega
  · exact h0
 obtain ⟨k, rfl⟩ : ∃ k, q = k + 1 := ⟨q - 1, by omega⟩
 rw [Nat.add_sub_cancel] at hq ⊢
 rw [Nat.mul_add, Nat.mul_one, Nat.mul_comm b k, Nat.mul_one] at h
 have hc : c = 1 := by
  rcases Nat.lt_or_ge c 1 with h3 | h3
  ·
   have : c = 0 := by omega
   subst this
   rw [Nat.mul_zero, Nat.add_zero] at h2
   omega
  ·
   rcases Nat.lt_or_ge 1 c with h4 | h4
   ·
    have := Nat.mul_le_mul_left M h4
    omega
   · omega
 subst hc
 rw [Nat.mul_one] at h2
 omega
theorem long_quo {qs : List Nat} {i q : Nat} (hi : i < qs.length) : val ((qs.set i q).drop i) = q + 4294967296 * val (qs.drop (i + 1)) := by
 rw [val_tail ((qs.set i q).drop i), getD_drop, Nat.add_zero, getD_set_eq _ _ _ hi, List.tail_drop]
 congr 3
 exact List.drop_set_of_lt (by omega)
theorem long_inv {A P b r r' s s' q h : Nat} (h1 : A = h * (P * 4294967296) * b + s) (h2 : s' + P * r = s + P * r') (h3 : r' + q * b = r) : A = (q + 4294967296 * h) * P * b + s' := by
 have e1 : P * r = P * r' + P * (q * b) := by rw [← h3, Nat.mul_add]
 have e2 : (q + 4294967296 * h) * P * b = P * (q * b) + h * (P * 4294967296) * b := by
  rw [Nat.add_mul, Nat.add_mul]
  congr 1
  · rw [Nat.mul_comm q P, Nat.mul_assoc]
  · rw [Nat.mul_comm 4294967296 h, Nat.mul_assoc h, Nat.mul_comm 4294967296 P]
 omega
theorem long_end {A b q s : Nat} (h : A = q * b + s) (hs : s < b) : q = A / b ∧ s = A % b := by
 have hb : 0 < b := by omega
 constructor
 · rw [h, Nat.add_comm, Nat.add_mul_div_right _ _ hb, Nat.div_eq_of_lt hs, Nat.zero_add]
 · rw [h, Nat.add_comm, Nat.add_mul_mod_self_right, Nat.mod_eq_of_lt hs]
open Go.RowKit

theorem Cells.grown {g g' : Nat} {w w' : World} {zs : List Nat} (h : Cells w g zs) (hg : w.grownBy w' (some g')) (hne : g ≠ g') : Cells w' g zs :=
 ⟨h.1, by rw [hg.block g (Array.getElem?_eq_some_iff.1 h.2).1 (by simp only [ne_eq, Option.some.injEq]; exact hne)]; exact h.2⟩
theorem grownBy_one (w : World) (g k : Nat) (u : Value) : w.grownBy (w.setCell ⟨g, k, none⟩ u) (some g) := grownBy_set (World.grownBy.refl w _) k u
theorem Cells.seg {g off m cap : Nat} {w : World} {zs : List Nat} (h : Cells w g zs) (ho : off + m ≤ zs.length) (hm : m ≤ cap) (hc : cap ≤ 9223372036854775807) : Num w (.slice (some ⟨g, off, none⟩) m cap) ((zs.drop off).take m) := by
 have hl : ((zs.drop off).take m).length = m := by simp; omega
 refine ⟨limbs_take (limbs_drop h.1 off) m, some ⟨g, off, none⟩, cap, by rw [hl], by rw [hl]; exact hm, hc, fun e => by simp at e, fun j hj => ?_⟩
 rw [hl] at hj
 refine ⟨g, off, rfl, ?_⟩
 have := (h.cell (k := off + j) (by omega)).1
 rw [this]
 have e : ((zs.drop off).take m).getD j 0 = zs.getD (off + j) 0 := by
  rw [List.getD_eq_getElem?_getD, List.getElem?_take_of_lt hj, ← List.getD_eq_getElem?_getD, getD_drop]
 rw [e]; rfl
theorem seg_val {zs : List Nat} {off m : Nat} : val ((zs.drop off).take m) = low (zs.drop off) m := rfl

theorem lz_any (x : Int) (w : World) (h0 : 0 ≤ x) (h1 : x ≤ 4294967295) :
  Calls Tryz.prog 145 #[.int .u32 x] w fun e w' => e = .returned (.int .i64 ((32 - bl x.toNat : Nat) : Int)) ∧ w' = w := by
 have hb := bl_le32 (x := x.toNat) (by omega)
 go_enter Tryz.func145, Tryz.ntmps145
 go_wp2_with fail
 refine (len32_any _ _ h0 h1).mono ?_
 rintro e w1 ⟨rfl, rfl⟩
 obtain ⟨b, hbb⟩ : ∃ b, b = bl x.toNat := ⟨_, rfl⟩
 rw [← hbb] at hb ⊢
 have HB : Hid (b = bl x.toNat) := hbb
 clear hbb
 go_wp2
 go_ret
 exact ⟨ret_int (by rw [← HB.out]; omega), rfl⟩
theorem norm_top {b : List Nat} {n v : Nat} (hb : limbs b) (hl : b.length = n + 1) (hv : val b = v) (h : 2 ^ (32 * n + 31) ≤ v) : 2147483648 ≤ b.getD n 0 := by
 have e := low_succ b n
 have hlo := low_lt hb n
 rw [low_all (by omega), hv] at e
 rcases Nat.lt_or_ge (b.getD n 0) 2147483648 with h1 | h1
 ·
  have h2 : 4294967296 ^ n * (b.getD n 0 + 1) ≤ 4294967296 ^ n * 2147483648 := Nat.mul_le_mul_left _ h1
  rw [Nat.mul_add, Nat.mul_one] at h2
  have h3 : 2 ^ (32 * n + 31) = 4294967296 ^ n * 2147483648 := by rw [Nat.pow_add, ← pow_limb]
  omega
 · exact h1
theorem norm_big {v : Nat} (hv : v ≠ 0) {n t : Nat} (h : bl v = 32 * n + bl t) (ht : bl t ≤ 32) (ht0 : t ≠ 0) : 2 ^ (32 * n + 31) ≤ v * 2 ^ (32 - bl t) ∧ v * 2 ^ (32 - bl t) < 4294967296 ^ (n + 1) := by
 obtain ⟨m, e, h1, h2⟩ := bl_bounds hv
 obtain ⟨k, e2, _, _⟩ := bl_bounds ht0
 have hm : m + (32 - bl t) = 32 * n + 31 := by omega
 constructor
 ·
  rw [← hm, Nat.pow_add]
  exact Nat.mul_le_mul_right _ h1
 ·
  rw [pow_limb, show 32 * (n + 1) = (m + 1) + (32 - bl t) by omega, Nat.pow_add]
  exact Nat.mul_lt_mul_of_pos_right h2 (Nat.two_pow_pos _)
open Go.RowKit

def LongEnd (w : World) (a b : Nat) (e : Ending) (w' : World) : Prop :=
 ∃ q r, e = .returned (.tuple #[q, r]) ∧ Own w.heap.size 37 w' q (lim (a / b)) ∧ Own w.heap.size 37 w' r (lim (a % b)) ∧ (q.ownBlock = none ∨ q.ownBlock ≠ r.ownBlock) ∧ Below w.heap.size w w'
theorem divideLong_any (ao bo : Option Addr) (acap bcap n la : Nat) (A Bl : List Nat) (w : World) (ha : Num w (.slice ao la acap) A) (hb : Num w (.slice bo (n + 2) bcap) Bl) (hal : A.length = la) (hbl : Bl.length = n + 2) (hla : la ≤ 274877906944) (hge : n + 2 ≤ la)
  (htop : Bl.getD (n + 1) 0 ≠ 0) :
  Calls Tryz.prog 138 #[.slice ao la acap, .slice bo (n + 2) bcap] w fun e w' => LongEnd w (val A) (val Bl) e w' := by
 obtain ⟨i0, hi, hz0, hz1, hz2⟩ := info_parts Tryz.infoU
 have ht32 := limb_lt hb.1 (n + 1)
 have hbt := bl_le32 ht32
 have hvb0 : val Bl ≠ 0 := by
  have e := low_succ Bl (n + 1)
  rw [low_all (by omega)] at e
  have : 0 < 4294967296 ^ (n + 1) * Bl.getD (n + 1) 0 := Nat.mul_pos (Nat.pow_pos (by decide)) (by omega)
  omega
 have HB1 : Hid (4294967296 ^ (n + 1) ≤ val Bl) := by
  show _ ≤ _
  have e := low_succ Bl (n + 1)
  rw [low_all (by omega)] at e
  have : 4294967296 ^ (n + 1) * 1 ≤ 4294967296 ^ (n + 1) * Bl.getD (n + 1) 0 := Nat.mul_le_mul_left _ (by omega)
  omega
 have hblv : bl (val Bl) = 32 * (n + 1) + bl (Bl.getD (n + 1) 0) := by
  have e := low_succ Bl (n + 1)
  rw [low_all (by omega)] at e
  rw [e]
  exact bl_top (low_lt hb.1 (n + 1)) htop
 have hnb := norm_big hvb0 hblv hbt htop
 obtain ⟨_, bo', bc', eb, hbc, hbm, _, cb⟩ := hb.open_
 simp only [Value.slice.injEq] at eb
 obtain ⟨rfl, q2, rfl⟩ := eb
 obtain ⟨bb, bof, rfl, c1⟩ := cb (n + 1) (by omega)
 obtain ⟨t, ht⟩ : ∃ t, t = Bl.getD (n + 1) 0 := ⟨_, rfl⟩
 rw [← ht] at c1 hnb ht32 hbt htop
 obtain ⟨up, hup⟩ : ∃ up, up = 32 - bl t := ⟨_, rfl⟩
 rw [← hup] at hnb
 have hup31 : up ≤ 31 := by
  have : bl t ≠ 0 := by
   obtain ⟨m, e, _⟩ := bl_bounds htop
   omega
  omega
 have HUP : Hid (up = 32 - bl t) := hup
 have HNB1 : Hid (2 ^ (32 * (n + 1) + 31) ≤ val Bl * 2 ^ up) := hnb.1
 have HNB2 : Hid (val Bl * 2 ^ up < 4294967296 ^ (n + 1 + 1)) := hnb.2
 rw [hbl] at hbc
 clear cb q2 ht hup hblv hnb
 go_enter Tryz.func138, Tryz.ntmps138
 go_wp2_with fail
 refine (lz_any _ _ (by omega) (by omega)).mono ?_
 rintro e w ⟨rfl, rfl⟩
 rw [Int.toNat_natCast, ← HUP.out]
 go_wp2_with fail
 refine (lift_any _ _ _ _ ha (by omega) (by omega)).mono ?_
 rintro e w1 ⟨zs, rfl, hzl, hcz, hvz, hb1⟩
 rw [hal, show up / 32 = 0 by omega, Nat.add_zero] at hzl ⊢
 go_wp2_with fail
 refine (lift_any _ _ _ _ (hb.below (Nat.le_refl _) hb1) (by omega) (by omega)).mono ?_
 rintro e w2 ⟨ys, rfl, hyl, hcy, hvy, hb2⟩
 rw [hbl, show up / 32 = 0 by omega, Nat.add_zero] at hyl ⊢
 obtain ⟨L, hL⟩ : ∃ L, L = la - (n + 2) + 1 := ⟨_, rfl⟩
 have HL : Hid (L = la - (n + 2) + 1) := hL
 have hL0 : 0 < L := by omega
 have hL2 : L ≤ 549755813889 := by omega
 have hLn : L + (n + 2) = la + 1 := by omega
 have HLN : Hid (L + (n + 2) = la + 1) := hLn
 clear hL hLn
 have S1 := hb1.size
 have hgl1 : w.heap.size < w1.heap.size := (Array.getElem?_eq_some_iff.1 hcz.2).1
 have hgb1 : w1.heap.size < w2.heap.size := (Array.getElem?_eq_some_iff.1 hcy.2).1
 have hB2 : Below w.heap.size w w2 := hb1.trans (hb2.mono S1)
 go_wp2_with (at_make; refine wpList_make_full _ rfl _ _ 23 rfl w.heap.size 37 i0 (.int .u32 0) 1 Tryz.underlying23 hi hz0 hz1 _ _ _ _ L rfl rfl (by have := HL.out; omega) (by have := HL.out; omega) (by rw [hz2]; omega) (by unfold maxLen; omega) hB2.size ?_)
 intro w3 ho3 hg3
 have how := own_made ho3
 have hbel3 : Below w2.heap.size w2 w3 := (Below.refl w2.heap.size w2).grown hg3 (Nat.le_refl _) (by intro k hk; simp at hk)
 have hcz3 : Cells w3 w.heap.size zs := ⟨hcz.1, by rw [hbel3.block _ (by omega), hb2.block _ (by omega)]; exact hcz.2⟩
 have hcy3 : Cells w3 w1.heap.size ys := ⟨hcy.1, by rw [hbel3.block _ (by omega)]; exact hcy.2⟩
 have hcq3 : Cells w3 w2.heap.size (List.replicate L 0) := how.cells
 have hB3 : Below w.heap.size w w3 := hB2.trans (hbel3.mono (by omega))
 have hnb3 : Num w3 (.slice (some ⟨w1.heap.size, 0, none⟩) (n + 2) (n + 3)) (ys.take (n + 2)) := by
  have := ((hcy3.own (B := 0) (Nat.zero_le _) (by rw [hyl]; omega)).num).cut (k := n + 2) (by omega)
  rw [hyl] at this
  exact this
 have hvb : val (ys.take (n + 2)) = val Bl * 2 ^ up := by
  have := low_small hcy.1 (n := n + 2) (by rw [hvy]; exact HNB2.out)
  rw [← hvy]; exact this
 have hbs : (ys.take (n + 2)).length = n + 2 := by simp; omega
 have htp : 2147483648 ≤ (ys.take (n + 2)).getD (n + 1) 0 := norm_top hnb3.1 hbs hvb HNB1.out
 generalize ys.take (n + 2) = bs at *
 obtain ⟨b', hb'⟩ : ∃ b', b' = val bs := ⟨_, rfl⟩
 have hb'1 : b' < 4294967296 ^ (n + 2) := by rw [hb']; have := val_lt hnb3.1; rw [hbs] at this; exact this
 obtain ⟨A', hA'⟩ : ∃ A', A' = val zs := ⟨_, rfl⟩
 have HST : Hid (val (zs.drop L) < b') := by
  show _ < _
  rw [val_drop zs hcz.1 L (by have := HLN.out; omega), hvz, hb', hvb]
  apply Nat.div_lt_of_lt_mul
  have h1 := val_lt ha.1
  rw [hal] at h1
  have h2 := Nat.mul_le_mul_left (4294967296 ^ L) HB1.out
  rw [← Nat.pow_add, show L + (n + 1) = la by have := HLN.out; omega] at h2
  rw [← Nat.mul_assoc]
  exact Nat.mul_lt_mul_of_pos_right (Nat.lt_of_lt_of_le h1 h2) (Nat.two_pow_pos _)
 have HA : Hid (val A * 2 ^ up = A') := by show _ = _; rw [hA', hvz]
 have HB : Hid (val Bl * 2 ^ up = b') := by show _ = _; rw [hb', hvb]
 have HBV : Hid (b' = val bs) := hb'
 have HB'1 : Hid (b' < 4294967296 ^ (n + 2)) := hb'1
 have HZ0 : Hid (val zs = A') := hA'.symm
 have hzl0 : zs.length = la + 1 := hzl
 obtain ⟨gl, hgl⟩ : ∃ g, g = w.heap.size := ⟨_, rfl⟩
 obtain ⟨gb, hgb⟩ : ∃ g, g = w1.heap.size := ⟨_, rfl⟩
 obtain ⟨gq, hgq⟩ : ∃ g, g = w2.heap.size := ⟨_, rfl⟩
 rw [← hgl] at hcz3
 rw [← hgb] at hnb3
 rw [← hgq] at hcq3
 rw [← hgl, ← hgb, ← hgq]
 have hlb : gl ≠ gb := by omega
 have hlq : gl ≠ gq := by omega
 have hbq : gb ≠ gq := by omega
 have HGL : Hid (gl = w.heap.size) := hgl
 have hglq : gl < gq := by omega
 have HC0 : Hid (Cells w3 gl zs ∧ Cells w3 gq (List.replicate L 0) ∧ Num w3 (.slice (some ⟨gb, 0, none⟩) (n + 2) (n + 3)) bs ∧ Below w.heap.size w w3) := ⟨hcz3, hcq3, hnb3, hB3⟩
 have HZL0 : Hid (zs.length = la + 1) := hzl0
 clear hb' hb'1 hA' hvb hvz hvy hcz hcy hcy3 hcz3 hcq3 hnb3 hB3 hzl hzl0 how hbel3 ho3 hg3 hb1 hb2 hB2 S1 hgl1 hgb1 hgl hgb hgq hyl hvb0
 go_wp2
 go_loopw [10] (fun t wr => ∃ (i : Nat) (zs qs : List Nat), i ≤ L ∧ t = .int .i64 ((i : Int) - 1) ∧ zs.length = la + 1 ∧ qs.length = L ∧ Cells wr gl zs ∧ Cells wr gq qs ∧ Num wr (.slice (some ⟨gb, 0, none⟩) (n + 2) (n + 3)) bs ∧ Below w.heap.size w wr ∧ A' = val (qs.drop i) * 4294967296 ^ i * b' + val zs ∧ val (zs.drop i) < b') (fun t _ => (intOf t + 1).toNat)
 case atStart =>
  refine ⟨L, zs, List.replicate L 0, Nat.le_refl _, rfl, HZL0.out, by simp, HC0.out.1, HC0.out.2.1, HC0.out.2.2.1, HC0.out.2.2.2, ?_, HST.out⟩
  rw [List.drop_of_length_le (by simp), HZ0.out]
  simp [val]
 case round =>
  clear HC0 HST HZ0 HZL0
  obtain ⟨i, ys, qs, hiL, rfl, hyl, hql, hcz, hcq, hnb, hbel, hinv, hlt⟩ := hrel
  have HYL : Hid (ys.length = la + 1) := hyl
  have HQL : Hid (qs.length = L) := hql
  have HI : Hid (A' = val (qs.drop i) * 4294967296 ^ i * b' + val ys) := hinv
  have HLT : Hid (val (ys.drop i) < b') := hlt
  clear hyl hql hinv hlt
  by_cases hi0 : 0 < i
  ·
   obtain ⟨j, rfl⟩ : ∃ j, i = j + 1 := ⟨i - 1, by omega⟩
   rw [show ((j + 1 : Nat) : Int) - 1 = (j : Int) by omega]
   have hge : (0 : Int) ≤ (j : Int) := by omega
   have hjL : (j : Int) < (L : Int) := by omega
   have hjs : j + (n + 3) ≤ la + 1 := by have := HLN.out; omega
   have HVJ : Hid (val (ys.drop j) < 4294967296 * b') := by
    show _ < _
    have h1 := val_drop_step ys j
    have h2 := limb_lt hcz.1 j
    have h3 := HLT.out
    omega
   have HSM : Hid (low (ys.drop j) (n + 3) = val (ys.drop j)) := by
    apply low_small (limbs_drop hcz.1 j)
    have h1 := HVJ.out
    have h2 := HB'1.out
    rw [Nat.pow_succ]
    have h3 := Nat.mul_le_mul_left 4294967296 h2
    omega
   have hseg := hcz.seg (off := j) (m := n + 3) (cap := la + 1 - j) (by rw [HYL.out]; exact hjs) (by omega) (by omega)
   have hsl : ((ys.drop j).take (n + 3)).length = n + 3 := by simp; rw [HYL.out]; omega
   have HSG : Hid (∀ zs' : List Nat, zs'.length = ys.length → (∀ k, k < j ∨ j + (n + 3) ≤ k → zs'.getD k 0 = ys.getD k 0) → low (zs'.drop j) (n + 3) = val (zs'.drop j)) := fun zs' h1 h2 => by
    refine (seg_high (zs := ys) hcz.1 (by rw [HYL.out]; exact hjs) h1 h2 ?_).symm
    have h1 := HVJ.out
    have h2 := HB'1.out
    rw [Nat.pow_succ]
    have h3 := Nat.mul_le_mul_left 4294967296 h2
    omega
   have hgu := guess_any (some ⟨gl, j, none⟩) (some ⟨gb, 0, none⟩) n (la + 1 - j) (n + 3) _ _ wr hseg hnb hsl hbs (by omega) htp (by rw [seg_val, HSM.out, ← HBV.out]; exact HVJ.out)
   rw [seg_val, HSM.out, ← HBV.out] at hgu
   have HGU : Hid (Calls Tryz.prog 147 #[.slice (some ⟨gl, j, none⟩) (n + 3) (la + 1 - j), .slice (some ⟨gb, 0, none⟩) (n + 2) (n + 3)] wr fun e w' => (∃ q : Nat, e = .returned (.int .u32 (q : Int)) ∧ GuessOk (val (ys.drop j)) b' q) ∧ ∃ k, w' = wr.drewN k) := hgu
   clear hgu hseg hsl
   have hnez : ∀ a : Addr, some ⟨gb, 0, none⟩ = some a → a.block ≠ gl := fun a h => by
    rw [Option.some.injEq] at h; subst h; exact fun h => hlb h.symm
   have hBw : w.heap.size ≤ wr.heap.size := hbel.size
   go_wp2_with fail
   rw [show j + (n + 2) + 1 - j = n + 3 by omega]
   refine HGU.out.mono ?_
   rintro e wg ⟨⟨q, rfl, hgok⟩, kg, hwg⟩
   have hczg : Cells wg gl ys := ⟨hcz.1, by rw [hwg, heap_drewN]; exact hcz.2⟩
   have hcqg : Cells wg gq qs := ⟨hcq.1, by rw [hwg, heap_drewN]; exact hcq.2⟩
   have hnbg : Num wg (.slice (some ⟨gb, 0, none⟩) (n + 2) (n + 3)) bs := hnb.same (by rw [hwg, heap_drewN])
   have hbelg : Below w.heap.size w wg := by rw [hwg]; exact below_drewN hbel kg
   clear hcz hcq hnb hbel HGU hwg hBw
   have hq32 := hgok.1
   have HGO : Hid (GuessOk (val (ys.drop j)) b' q) := hgok
   clear hgok
   go_wp2_with fail
   refine (takeTimes_any (some ⟨gb, 0, none⟩) (n + 2) (n + 3) bs ys gl j (n + 3) (la + 1 - j) (q : Int) wg wg hnbg hnez (World.grownBy.refl _ _) hczg (by omega) (by rw [HYL.out]; exact hjs) (by omega) (by omega) (by omega) (by omega)).mono ?_
   rintro e wt ⟨zs', t, rfl, ht1, hzl', hcz', hgr, hout, heq⟩
   rw [Int.toNat_natCast] at heq
   have hcq' : Cells wt gq qs := hcqg.grown hgr (fun h => hlq h.symm)
   have hnb' := hnbg.grown hnez hgr
   have hbel' : Below w.heap.size w wt := hbelg.grown hgr hbelg.size (by intro k hk; rw [Option.some.injEq] at hk; rw [← hk, HGL.out]; exact Nat.le_refl _)
   have HZ' : Hid (zs'.length = ys.length) := hzl'
   have HOUT : Hid (∀ k, k < j ∨ j + (n + 3) ≤ k → zs'.getD k 0 = ys.getD k 0) := hout
   rw [HSG.out zs' hzl' hout, HSM.out, ← HBV.out] at heq
   have HEQ : Hid (val (zs'.drop j) + b' * q = val (ys.drop j) + 4294967296 ^ (n + 3) * t) := heq
   clear hzl' hout heq hczg hcqg hnbg hbelg hgr
   rcases (show t = 0 ∨ t = 1 by omega) with rfl | rfl
   ·
    have HNX : Hid (val (zs'.drop j) < b' ∧ val (zs'.drop j) + q * b' = val (ys.drop j)) := take_right HEQ.out HGO.out.2.2
    obtain ⟨cq, hfq⟩ := hcq'.cell (k := j) (by rw [HQL.out]; omega)
    have hset := hcq'.set j q hq32
    have hgs := grownBy_one wt gq j (U q)
    have hcz2 := hcz'.grown hgs hlq
    have hnb2 := hnb'.grown (fun a h => by rw [Option.some.injEq] at h; subst h; exact hbq) hgs
    have hbel2 := hbel'.setCell (p := ⟨gq, j, none⟩) (by show _ ≤ gq; rw [← HGL.out]; omega) (U q)
    rw [show U q = .int .u32 (q : Int) from rfl] at hset hcz2 hnb2 hbel2
    obtain ⟨x, hx⟩ : ∃ x, x = qs.getD j 0 := ⟨_, rfl⟩
    rw [← hx] at cq
    clear hcq' hcz' hnb' hbel' hx hgs
    go_wp2_with fail
    go_roundw
    case rel =>
     refine ⟨j, zs', qs.set j q, by omega, by go_num, by rw [HZ'.out]; exact HYL.out, by rw [List.length_set]; exact HQL.out, hcz2, hset, hnb2, hbel2, ?_, HNX.out.1⟩
     rw [long_quo (by rw [HQL.out]; omega)]
     have hI := HI.out
     rw [Nat.pow_succ] at hI
     exact long_inv hI (long_val (by rw [HYL.out]; omega) HZ'.out (fun k hk => HOUT.out k (Or.inl hk))) HNX.out.2
    case measure => simp [intOf]
   ·
    have hlm : val (zs'.drop j) < 4294967296 ^ (n + 3) := by
     rw [← HSG.out zs' HZ'.out HOUT.out]; exact low_lt (limbs_drop hcz'.1 j) _
    have hq1 : 1 ≤ q := by
     rcases Nat.eq_zero_or_pos q with h0 | h0
     ·
      have h1 := HEQ.out
      rw [h0, Nat.mul_zero] at h1
      omega
     · exact h0
    have HLM : Hid (val (zs'.drop j) < 4294967296 ^ (n + 3)) := hlm
    clear hlm
    have hq1' : (1 : Int) ≤ (q : Int) := by omega
    go_wp2_with fail
    refine (putBack_any (some ⟨gb, 0, none⟩) (n + 2) (n + 3) bs zs' gl j (n + 3) (la + 1 - j) wt wt hnb' hnez (World.grownBy.refl _ _) hcz' (by omega) (by rw [HZ'.out, HYL.out]; exact hjs) (by omega) (by omega)).mono ?_
    rintro e wp ⟨z2, c, rfl, hz2, hczp, hgr, hout, heq⟩
    have hcqp : Cells wp gq qs := hcq'.grown hgr (fun h => hlq h.symm)
    have hnbp := hnb'.grown hnez hgr
    have hbelp : Below w.heap.size w wp := hbel'.grown hgr hbel'.size (by intro k hk; rw [Option.some.injEq] at hk; rw [← hk, HGL.out]; exact Nat.le_refl _)
    have hout2 : ∀ k, k < j ∨ j + (n + 3) ≤ k → z2.getD k 0 = ys.getD k 0 := fun k hk => by rw [hout k hk, HOUT.out k hk]
    have hz3 : z2.length = ys.length := by rw [hz2, HZ'.out]
    rw [HSG.out z2 hz3 hout2, HSG.out zs' HZ'.out HOUT.out, ← HBV.out] at heq
    have hl2 : val (z2.drop j) < 4294967296 ^ (n + 3) := by
     rw [← HSG.out z2 hz3 hout2]; exact low_lt (limbs_drop hczp.1 j) _
    have HNX : Hid (1 ≤ q ∧ val (z2.drop j) < b' ∧ val (z2.drop j) + (q - 1) * b' = val (ys.drop j)) := by
     refine take_back HEQ.out HLM.out heq hl2 HGO.out.2.1 ?_
     have h2 := HB'1.out
     exact Nat.lt_of_lt_of_le h2 (Nat.pow_le_pow_right (by decide) (by omega))
    have HZ2 : Hid (z2.length = ys.length) := hz3
    have HO2 : Hid (∀ k, k < j ∨ j + (n + 3) ≤ k → z2.getD k 0 = ys.getD k 0) := hout2
    obtain ⟨cq, hfq⟩ := hcqp.cell (k := j) (by rw [HQL.out]; omega)
    have hset := hcqp.set j (q - 1) (by omega)
    have hgs := grownBy_one wp gq j (U (q - 1))
    have hcz2 := hczp.grown hgs hlq
    have hnb2 := hnbp.grown (fun a h => by rw [Option.some.injEq] at h; subst h; exact hbq) hgs
    have hbel2 := hbelp.setCell (p := ⟨gq, j, none⟩) (by show _ ≤ gq; rw [← HGL.out]; omega) (U (q - 1))
    rw [show U (q - 1) = .int .u32 ((q : Int) - 1) by unfold U; congr 1; omega] at hset hcz2 hnb2 hbel2
    obtain ⟨x, hx⟩ : ∃ x, x = qs.getD j 0 := ⟨_, rfl⟩
    rw [← hx] at cq
    clear hcqp hczp hnbp hbelp hx hgs hcq' hcz' hnb' hbel' hz2 hgr hout heq hout2 hz3 hl2 HLM HEQ HOUT HZ'
    go_wp2_with fail
    go_roundw
    case rel =>
     refine ⟨j, z2, qs.set j (q - 1), by omega, by go_num, by rw [HZ2.out]; exact HYL.out, by rw [List.length_set]; exact HQL.out, hcz2, hset, hnb2, hbel2, ?_, HNX.out.2.1⟩
     rw [long_quo (by rw [HQL.out]; omega)]
     have hI := HI.out
     rw [Nat.pow_succ] at hI
     exact long_inv hI (long_val (by rw [HYL.out]; omega) HZ2.out (fun k hk => HO2.out k (Or.inl hk))) HNX.out.2.2
    case measure => simp [intOf]
  ·
   have hi1 : i = 0 := by omega
   subst hi1
   have hge : ¬ (0 : Int) ≤ ((0 : Nat) : Int) - 1 := by omega
   have hI := HI.out
   have hL := HLT.out
   rw [List.drop_zero, Nat.pow_zero, Nat.mul_one] at hI
   rw [List.drop_zero] at hL
   have hend := long_end hI hL
   have hup0 : 0 < 2 ^ up := Nat.two_pow_pos _
   rw [← HA.out, ← HB.out, Nat.mul_div_mul_right _ _ hup0, Nat.mul_mod_mul_right] at hend
   have HQ : Hid (val qs = val A / val Bl) := hend.1
   have HR : Hid (val ys = val A % val Bl * 2 ^ up) := hend.2
   clear hend hI hL hnb
   have nq : Num wr (.slice (some ⟨gq, 0, none⟩) L L) qs := by
    have := (hcq.own (B := 0) (Nat.zero_le _) (by rw [HQL.out]; omega)).num
    rw [HQL.out] at this; exact this
   have nz : Num wr (.slice (some ⟨gl, 0, none⟩) (la + 1) (la + 1)) ys := by
    have := (hcz.own (B := 0) (Nat.zero_le _) (by rw [HYL.out]; omega)).num
    rw [HYL.out] at this; exact this
   go_wp2_with fail
   refine (trim_any _ _ _ nq).mono ?_
   rintro e w5 ⟨⟨k, hk, hkt, rfl⟩, rfl⟩
   go_wp2_with fail
   refine (trim_any _ _ _ nz).mono ?_
   rintro e w6 ⟨⟨k2, hk2, hkt2, rfl⟩, rfl⟩
   have nz2 := nz.cut hk2
   rw [hkt2] at nz2
   have hlen : (lim (val ys)).length ≤ la + 1 := lim_len_le (by have := val_lt hcz.1; rw [HYL.out] at this; exact this)
   rw [HR.out] at nz2 hlen
   have oq : Own w.heap.size 37 w6 (cutTo (.slice (some ⟨gq, 0, none⟩) L L) k) (lim (val A / val Bl)) := by
    have h1 := hcq.own (B := w.heap.size) (by rw [← HGL.out]; omega) (by rw [HQL.out]; omega)
    rw [HQL.out] at h1
    have h2 := h1.cut hk
    rw [hkt, HQ.out] at h2
    exact h2
   go_wp2_with fail
   refine (drop_any _ _ up _ nz2 (by omega) (by omega)).mono ?_
   rintro e w7 ⟨r, rfl, hor, hb7⟩
   rw [val_lim, Nat.mul_div_cancel _ hup0] at hor
   have HE : Hid (LongEnd w (val A) (val Bl) (.returned (.tuple #[cutTo (.slice (some ⟨gq, 0, none⟩) L L) k, r])) w7) :=
    ⟨_, _, rfl, oq.below hb7, hor.mono hbel.size, apart_later oq hor (Nat.le_refl _), hbel.trans (hb7.mono hbel.size)⟩
   clear oq hor hb7 nz nq nz2 hbel hcz hcq hk hkt hk2 hkt2 hlen
   go_wp2_with fail
   go_ret2
   exact HE.out
open Go.RowKit

def errZ (b : Nat) : Int := if b = 0 then 11 else 0
def modZ (a b : Nat) : Nat := if b = 0 then 0 else a % b
def DivEnd (w : World) (a b : Nat) (e : Ending) (w' : World) : Prop :=
 ∃ q r, e = .returned (.tuple #[q, r, .int .i64 (errZ b)]) ∧ Own w.heap.size 37 w' q (lim (a / b)) ∧ Own w.heap.size 37 w' r (lim (modZ a b)) ∧ (q.ownBlock = none ∨ q.ownBlock ≠ r.ownBlock) ∧ Below w.heap.size w w'
theorem lim_len_zero {n : Nat} (h : (lim n).length = 0) : n = 0 := by
 rw [← val_lim n, List.length_eq_zero_iff.1 h]; rfl
theorem lim_len_one {n : Nat} (h : (lim n).length = 1) : n < 4294967296 ∧ n ≠ 0 ∧ lim n = [n] := by
 have h1 := lim_lt_of_len (n := n) (k := 1) (by omega)
 rw [Nat.pow_one] at h1
 have h0 : n ≠ 0 := by intro e; subst e; simp [lim_zero] at h
 refine ⟨h1, h0, ?_⟩
 rw [lim_pos h0, Nat.mod_eq_of_lt h1, Nat.div_eq_of_lt h1, lim_zero]
theorem divMod_any (u v : Value) (xs ys : List Nat) (w : World) (hu : Num w u xs) (hv : Num w v ys) (hbx : xs.length ≤ 274877906944) :
  Calls Tryz.prog 112 #[u, v] w fun e w' => DivEnd w (val xs) (val ys) e w' := by
 obtain ⟨ao, ac, rfl, hac, ham⟩ := hu.ao
 obtain ⟨bo, bc, rfl, hbc, hbm⟩ := hv.ao
 obtain ⟨a, ha⟩ : ∃ a, a = val xs := ⟨_, rfl⟩
 obtain ⟨b, hb⟩ : ∃ b, b = val ys := ⟨_, rfl⟩
 rw [← ha, ← hb]
 go_enter Tryz.func112, Tryz.ntmps112
 go_wp2_with fail
 refine (trim_any _ _ _ hu).mono ?_
 rintro e w1 ⟨⟨k, hk, hkt, rfl⟩, rfl⟩
 go_wp2_with fail
 refine (trim_any _ _ _ hv).mono ?_
 rintro e w2 ⟨⟨m, hm, hmt, rfl⟩, rfl⟩
 have na := hu.cut hk
 have nb := hv.cut hm
 rw [hkt, ← ha] at na
 rw [hmt, ← hb] at nb
 have hkl : (lim a).length = k := by rw [ha, ← hkt]; simp; omega
 have hml : (lim b).length = m := by rw [hb, ← hmt]; simp; omega
 simp only [cutTo] at na nb ⊢
 clear hkt hmt ha hb hu hv
 have HKL : Hid ((lim a).length = k) := hkl
 have HML : Hid ((lim b).length = m) := hml
 clear hkl hml
 by_cases hm0 : m = 0
 ·
  subst hm0
  have hb0 := lim_len_zero HML.out
  have HE : Hid (DivEnd w2 a b (.returned (.tuple #[.slice none 0 0, .slice none 0 0, .int .i64 11])) w2) := by
   subst hb0
   exact ⟨_, _, rfl, by rw [Nat.div_zero]; exact Own.of_nil _ _ _, Own.of_nil _ _ _, Or.inl rfl, Below.refl _ _⟩
  clear na nb
  go_wp2_with fail
  go_ret3
  exact HE.out
 ·
  have hm0' : ¬ (m : Int) = 0 := by omega
  have hbn : b ≠ 0 := by intro h; subst h; exact hm0 (by rw [← HML.out]; rfl)
  go_wp2_with fail
  refine (cmp_any _ _ _ _ _ na nb).mono ?_
  rw [val_lim, val_lim]
  rintro e w3 ⟨rfl, kq, hw3⟩
  replace na := na.same (w' := w3) (by rw [hw3, heap_drewN])
  replace nb := nb.same (w' := w3) (by rw [hw3, heap_drewN])
  have hbel3 : Below w2.heap.size w2 w3 := by rw [hw3]; exact below_drewN (Below.refl _ _) kq
  have hs3 : w3.heap.size = w2.heap.size := by rw [hw3, heap_drewN]
  clear hw3
  have HS3 : Hid (w3.heap.size = w2.heap.size) := hs3
  clear hs3
  have HEZ : Hid (errZ b = 0 ∧ modZ a b = a % b) := by unfold errZ modZ; rw [if_neg hbn, if_neg hbn]; exact ⟨rfl, rfl⟩
  by_cases hlt : a < b
  ·
   rw [cmpN_lt hlt]
   go_wp2_with fail
   refine (fresh_any _ _ _ na (by rw [HKL.out]; omega)).mono ?_
   rintro e w4 ⟨r, rfl, hor, hb4⟩
   have HE : Hid (DivEnd w2 a b (.returned (.tuple #[.slice none 0 0, r, .int .i64 0])) w4) := by
    rw [HS3.out] at hor hb4
    refine ⟨_, _, by rw [HEZ.out.1], ?_, ?_, Or.inl rfl, hbel3.trans hb4⟩
    · rw [Nat.div_eq_of_lt hlt]; exact Own.of_nil _ _ _
    · rw [HEZ.out.2, Nat.mod_eq_of_lt hlt]; exact hor
   clear hor hb4 na nb
   go_wp2_with fail
   go_ret3
   exact HE.out
  ·
   have hc : cmpN a b = 0 ∨ cmpN a b = 1 := by
    rcases cmpN_cases a b with h | h | h
    · exact absurd h.1 hlt
    · exact Or.inl h.2
    · exact Or.inr h.2
   obtain ⟨c, hcc⟩ : ∃ c, c = cmpN a b := ⟨_, rfl⟩
   rw [← hcc] at hc ⊢
   have hc0 : ¬ c < 0 := by omega
   clear hcc hc
   have ha0 : a ≠ 0 := by omega
   have hk0 : k ≠ 0 := by intro h; rw [h] at HKL; exact ha0 (lim_len_zero HKL.out)
   by_cases hm1 : m = 1
   ·
    subst hm1
    obtain ⟨hb32, _, hbl⟩ := lim_len_one HML.out
    have hb1' : (0 : Int) < (b : Int) := by omega
    have hcell : ∃ bb off, bo = some ⟨bb, off, none⟩ ∧ w3.cell? ⟨bb, off + 0, none⟩ = some (.int .u32 (b : Int)) := by
     obtain ⟨_, ao', cap', e, _, _, _, h4⟩ := nb
     simp only [Value.slice.injEq] at e
     obtain ⟨rfl, _, rfl⟩ := e
     obtain ⟨bb, off, e1, e2⟩ := h4 0 (by rw [HML.out]; omega)
     rw [hbl] at e2
     exact ⟨bb, off, e1, e2⟩
    obtain ⟨bb, off, rfl, hc1⟩ := hcell
    rw [Nat.add_zero] at hc1
    go_wp2_with fail
    refine (fresh_any _ _ _ na (by rw [HKL.out]; omega)).mono ?_
    rintro e w4 ⟨r, rfl, hor, hb4⟩
    rw [HS3.out] at hor
    obtain ⟨g, cap, rfl, hcap, hcapm⟩ : ∃ g cap, r = .slice (some ⟨g, 0, none⟩) k cap ∧ k ≤ cap ∧ cap ≤ 9223372036854775807 := by
     rcases hor.shape with ⟨_, h⟩ | ⟨g, cap, h1, h2, h3⟩
     · exact absurd (by rw [← HKL.out, h]; rfl) hk0
     · rw [HKL.out] at h1 h2; exact ⟨g, cap, h1, h2, h3⟩
    have hc2 : w4.cell? ⟨bb, off, none⟩ = some (.int .u32 (b : Int)) := by rw [hb4.cell (p := ⟨bb, off, none⟩) (block_lt_of_cell hc1)]; exact hc1
    have hbel4 : Below w2.heap.size w2 w4 := hbel3.trans (by rw [← HS3.out]; exact hb4)
    clear hc1 na nb hbel3 hb4
    go_wp2_with fail
    refine (divideBy_any (lim a) w2.heap.size g k cap (b : Int) w4 hor HKL.out hcap hcapm hb1' (by omega)).mono ?_
    rintro e w5 ⟨ys', rfl, hyl, hoy, hvy, hg5⟩
    rw [Int.toNat_natCast, val_lim] at hvy ⊢
    rw [HKL.out] at hyl hoy
    have hbel5 : Below w2.heap.size w2 w5 := hbel4.grown hg5 hbel4.size (by intro x hx; rw [Option.some.injEq] at hx; rw [← hx]; exact hoy.heap.1)
    have hr32 : a % b < 4294967296 := by have := Nat.mod_lt a (show 0 < b by omega); omega
    obtain ⟨r, hr⟩ : ∃ r, r = a % b := ⟨_, rfl⟩
    rw [← hr] at hr32 ⊢
    have HR : Hid (r = a % b) := hr
    clear hr hc2 hbel4 hg5 hor
    go_wp2_with fail
    refine (trim_any _ _ _ hoy.num).mono ?_
    rintro e w6 ⟨⟨q, hq, hqt, rfl⟩, rfl⟩
    have hoq := hoy.cut hq
    rw [hqt, hvy] at hoq
    go_wp2_with fail
    refine (of_any r _ (by omega)).mono ?_
    rintro e w7 ⟨rv, rfl, hrv, hb7⟩
    have HE : Hid (DivEnd w2 a b (.returned (.tuple #[cutTo (.slice (some ⟨g, 0, none⟩) k cap) q, rv, .int .i64 0])) w7) := by
     refine ⟨_, _, by rw [HEZ.out.1], hoq.below hb7, ?_, apart_later hoq hrv (Nat.le_refl _), hbel5.trans (hb7.mono hbel5.size)⟩
     rw [HEZ.out.2, ← HR.out]; exact hrv.mono hbel5.size
    clear hoq hrv hb7 hbel5 hoy hq hqt hvy
    go_wp2_with fail
    go_ret3
    exact HE.out
   ·
    have hm1' : ¬ (m : Int) = 1 := by omega
    obtain ⟨n, rfl⟩ : ∃ n, m = n + 2 := ⟨m - 2, by omega⟩
    have hkm : n + 2 ≤ k := by
     have := lim_len_of_lt (a := b) (b := a) (by omega)
     rw [HKL.out, HML.out] at this; exact this
    have htop : (lim b).getD (n + 1) 0 ≠ 0 := by
     obtain ⟨q, t, h1, h2, h3, _⟩ := lim_last hbn
     have : q = n + 1 := by have := HML.out; omega
     rw [← this, h2]; exact h3
    have hdl := divideLong_any ao bo ac bc n k (lim a) (lim b) w3 na nb HKL.out HML.out (by omega) hkm htop
    rw [val_lim, val_lim] at hdl
    have HDL : Hid (Calls Tryz.prog 138 #[.slice ao k ac, .slice bo (n + 2) bc] w3 fun e w' => LongEnd w3 a b e w') := hdl
    clear hdl na nb htop
    go_wp2_with fail
    refine HDL.out.mono ?_
    rintro e w4 ⟨q, r, rfl, hoq, hor, hap, hb4⟩
    have HE : Hid (DivEnd w2 a b (.returned (.tuple #[q, r, .int .i64 0])) w4) := by
     rw [HS3.out] at hoq hor hb4
     refine ⟨_, _, by rw [HEZ.out.1], hoq, ?_, hap, hbel3.trans hb4⟩
     rw [HEZ.out.2]; exact hor
    clear hoq hor hap hb4 hbel3 HDL
    go_wp2_with fail
    go_ret3
    exact HE.out
open Go.RowKit

theorem belowA (w : World) (o : Obj) : Below w.heap.size w (w.alloc o) := (Below.refl _ _).alloc (Nat.le_refl _) o
theorem belowDN (w : World) (q : Nat) : Below w.heap.size w (w.drewN q) := below_drewN (Below.refl _ _) q
theorem belowK {w w' : World} {k : Nat} (h : w' = w.drewN k) : Below w.heap.size w w' := by rw [h]; exact belowDN _ _
theorem bstep {w wr w' : World} (h : Below w.heap.size w wr) (hb : Below wr.heap.size wr w') : Below w.heap.size w w' := h.trans (hb.mono h.size)
open Go.RowKit

def RDivEnd (w : World) (a b : Nat) (e : Ending) (w' : World) : Prop :=
 ∃ q r, e = .returned (.tuple #[q, r, .int .i64 (errZ b)]) ∧ Own w.heap.size 37 w' q (lim (a / b)) ∧ Own w.heap.size 37 w' r (lim (modZ a b)) ∧ Below w.heap.size w w'
theorem Cells.below {g : Nat} {w w' : World} {zs : List Nat} (h : Cells w g zs) (hb : Below w.heap.size w w') : Cells w' g zs :=
 ⟨h.1, by rw [hb.block g (Array.getElem?_eq_some_iff.1 h.2).1]; exact h.2⟩
theorem lim_twice {R Y k : Nat} (h : R < 2 * Y) (hk : (lim Y).length ≤ k) : (lim R).length ≤ k + 1 := by
 have h9 : Y < 4294967296 ^ k := lim_lt_of_len hk
 refine lim_len_le ?_
 rw [Nat.pow_succ]
 generalize (4294967296 : Nat) ^ k = P at *
 omega
theorem bl_lenR {xs : List Nat} {k : Nat} (h : limbs xs) (hk : xs.length ≤ k) : bl (val xs) ≤ 32 * k := by
 by_cases h0 : val xs = 0
 · rw [h0, show bl 0 = 0 by decide]; omega
 ·
  obtain ⟨m, e, h3, h4⟩ := bl_bounds h0
  have h5 := val_lt h
  have h6 : (4294967296 : Nat) ^ xs.length = 2 ^ (32 * xs.length) := by rw [Nat.pow_mul]
  rw [h6] at h5
  have := (Nat.pow_lt_pow_iff_right (by decide : 1 < 2)).1 (Nat.lt_of_le_of_lt h3 h5)
  omega
theorem divMod_ref (u v : Value) (xs ys : List Nat) (w : World) (hu : Num w u xs) (hv : Num w v ys) (lx : xs.length ≤ 4000) (ly : ys.length ≤ 4000) :
  Calls Tryz.prog 101 #[u, v] w fun e w' => RDivEnd w (val xs) (val ys) e w' := by
 obtain ⟨i0, hi, hz0, hz1, hz2⟩ := info_parts Tryz.infoU
 have hblA := bl_lenR hu.1 lx
 have hltA := bl_lt (val xs)
 obtain ⟨Y, hY⟩ : ∃ Y, Y = val ys := ⟨_, rfl⟩
 have hlY : (lim Y).length ≤ 4000 := by rw [hY]; exact Nat.le_trans (lim_len_le (val_lt hv.1)) ly
 have HYV : Hid (val ys = Y) := hY.symm
 rw [← hY]
 clear hY
 obtain ⟨ao, cap, rfl, hl1, hm1⟩ := hu.ao
 go_enter Tryz.func101, Tryz.ntmps101
 go_wp2_with fail
 refine (norm_ref _ _ _ hv (by omega)).mono ?_
 rw [HYV.out]
 rintro e w1 ⟨y, rfl, hoy, b1⟩
 have nu := hu.below (Nat.le_refl _) b1
 obtain ⟨yo, yc, rfl, hyc, hym⟩ := hoy.num.ao
 obtain ⟨m, hm⟩ : ∃ m, m = (lim Y).length := ⟨_, rfl⟩
 have HM : Hid ((lim Y).length = m) := hm.symm
 rw [← hm] at hlY hoy hyc ⊢
 clear hm hu hv
 by_cases hm0 : m = 0
 ·
  subst hm0
  have hb0 := lim_len_zero HM.out
  have HE : Hid (RDivEnd w (val xs) Y (.returned (.tuple #[.slice none 0 0, .slice none 0 0, .int .i64 11])) w1) := by
   subst hb0
   exact ⟨_, _, rfl, by rw [Nat.div_zero]; exact Own.of_nil _ _ _, Own.of_nil _ _ _, b1⟩
  clear nu hoy b1
  go_wp2_with fail
  go_ret3
  exact HE.out
 ·
  have hm0' : ((m : Int) == 0) = false := by simp; omega
  have hYp : 0 < Y := by
   rcases Nat.eq_zero_or_pos Y with h | h
   · exfalso; apply hm0; rw [← HM.out, h]; rfl
   · exact h
  have HYP : Hid (0 < Y ∧ errZ Y = 0) := ⟨hYp, by unfold errZ; rw [if_neg (by omega)]⟩
  clear hm0 hYp
  go_wp2_with fail
  refine (bits_ref _ _ _ nu (by omega)).mono ?_
  rintro e w2 ⟨rfl, b2⟩
  replace nu := nu.below (Nat.le_refl _) b2
  replace hoy := hoy.below b2
  replace b1 := bstep b1 b2
  clear b2
  obtain ⟨A, hA⟩ : ∃ A, A = val xs := ⟨_, rfl⟩
  rw [← hA] at hblA hltA ⊢
  have HA : Hid (val xs = A) := hA.symm
  obtain ⟨n, hn⟩ : ∃ n, n = bl A := ⟨_, rfl⟩
  rw [← hn] at hblA hltA ⊢
  have HLT : Hid (A < 2 ^ n) := hltA
  clear hn hltA hA
  obtain ⟨L, hL⟩ : ∃ L, L = (n + 31) / 32 := ⟨_, rfl⟩
  have HL : Hid (L = (n + 31) / 32) := hL
  have hL2 : L ≤ 10000 := by omega
  have eL : ((n : Int) + 31).tdiv 32 = (L : Int) := by rw [Int.tdiv_eq_ediv_of_nonneg (by omega)]; omega
  have eL2 : ((n : Int) + 31) / 32 = (L : Int) := by omega
  have hS1 := b1.size
  clear hL
  go_wp2_with (at_make; refine wpList_make_full _ rfl _ _ 23 rfl w.heap.size 37 i0 (.int .u32 0) 1 Tryz.underlying23 hi hz0 hz1 _ _ _ _ L rfl rfl (by omega) (by omega) (by rw [hz2]; omega) (by unfold maxLen; omega) hS1 ?_)
  intro w3 ho2 hg2
  have how := own_made ho2
  have hbel : Below w2.heap.size w2 w3 := (Below.refl w2.heap.size w2).grown hg2 (Nat.le_refl _) (by intro k hk; simp at hk)
  obtain ⟨g, hg⟩ : ∃ g, g = w2.heap.size := ⟨_, rfl⟩
  have HG : Hid (g = w2.heap.size) := hg
  have HB : Hid (Below w2.heap.size w2 w3 ∧ Cells w3 g (List.replicate L 0)) := by rw [hg]; exact ⟨hbel, how.cells⟩
  rw [← hg]
  clear hg hbel how ho2 hg2
  go_wp2
  go_loopw [10, 11] (fun rv t wr => ∃ (i : Nat) (zs : List Nat), i ≤ n ∧ t = .int .i64 ((i : Int) - 1) ∧ zs.length = L ∧ Cells wr g zs ∧ Own (g + 1) 37 wr rv (lim (A / 2 ^ i % Y)) ∧ Below w2.heap.size w2 wr ∧ val zs = A / 2 ^ i / Y * 2 ^ i) (fun _ t _ => (intOf t + 1).toNat)
  case atStart =>
   refine ⟨n, List.replicate L 0, Nat.le_refl _, rfl, by simp, HB.out.2, ?_, HB.out.1, ?_⟩
   · rw [Nat.div_eq_of_lt HLT.out, Nat.zero_mod]; exact Own.of_nil _ _ _
   · rw [Nat.div_eq_of_lt HLT.out, Nat.zero_div, Nat.zero_mul]; exact val_zeros fun x hx => List.eq_of_mem_replicate hx
  case round =>
   clear HB
   obtain ⟨i, zs, hin, rfl, hzl, hcs, hor, hbel, hinv⟩ := hrel
   have HZ : Hid (zs.length = L) := hzl
   have HI : Hid (val zs = A / 2 ^ i / Y * 2 ^ i) := hinv
   clear hzl hinv
   obtain ⟨ro, rl, rc, rfl⟩ := hor.sl
   have hgs : g + 1 ≤ wr.heap.size := (Array.getElem?_eq_some_iff.1 hcs.2).1
   by_cases hi0 : 0 < i
   ·
    obtain ⟨j, rfl⟩ : ∃ j, i = j + 1 := ⟨i - 1, by omega⟩
    rw [show ((j + 1 : Nat) : Int) - 1 = (j : Int) by omega]
    have hge : (0 : Int) ≤ (j : Int) := by omega
    have hrY : A / 2 ^ (j + 1) % Y < Y := Nat.mod_lt _ HYP.out.1
    have hspl := bit_split A j
    obtain ⟨X, hX⟩ : ∃ X, X = A / 2 ^ (j + 1) := ⟨_, rfl⟩
    rw [← hX] at hor hrY hspl
    have HIX : Hid (val zs = X / Y * 2 ^ (j + 1)) := by show _ = _; rw [hX]; exact HI.out
    clear HI hX
    have hbt := bit_ref _ xs (j : Int) wr (nu.below (Nat.le_refl _) hbel) (by omega) (by omega)
    rw [HA.out, Int.toNat_natCast] at hbt
    obtain ⟨t, ht⟩ : ∃ t, t = A / 2 ^ j % 2 := ⟨_, rfl⟩
    rw [← ht] at hbt hspl
    have ht1 : t ≤ 1 := by omega
    have HSP : Hid (A / 2 ^ j = 2 * X + t) := hspl
    clear ht hspl
    have hrl : (lim (X % Y)).length ≤ 4000 := Nat.le_trans (lim_len_le (Nat.lt_of_lt_of_le hrY (Nat.le_of_lt (lim_lt_of_len (Nat.le_refl _))))) (by rw [HM.out]; exact hlY)
    go_wp2_with fail
    refine hbt.mono ?_
    rintro e w4 ⟨rfl, rfl⟩
    clear hbt
    go_wp2_with fail
    refine (double_ref _ _ t _ hor.num (by omega) ht1).mono ?_
    rintro e w5 ⟨d, ds, rfl, hod, hdv, hdl, _, b5⟩
    rw [val_lim] at hdv
    obtain ⟨do_, dl, dc, rfl⟩ := hod.sl
    replace hcs := hcs.below b5
    replace hbel := bstep hbel b5
    go_wp2_with fail
    refine (norm_ref _ _ _ hod.num (by omega)).mono ?_
    rw [hdv]
    rintro e w6 ⟨r, rfl, hor2, b6⟩
    obtain ⟨R, hR⟩ : ∃ R, R = 2 * (X % Y) + t := ⟨_, rfl⟩
    have HR : Hid (2 * (X % Y) + t = R) := hR.symm
    rw [← hR] at hor2
    replace hcs := hcs.below b6
    replace hbel := bstep hbel b6
    have hg6 : g + 1 ≤ w5.heap.size := Nat.le_trans hgs b5.size
    replace hor2 := hor2.mono (B' := g + 1) hg6
    have hrl2 : (lim R).length ≤ 4001 := lim_twice (k := 4000) (show R < 2 * Y by omega) (by rw [HM.out]; exact hlY)
    have hyn := hoy.num.below (Nat.le_refl _) hbel
    obtain ⟨ro2, rl2, rc2, rfl⟩ := hor2.sl
    clear hR hod hdv hdl b5 b6 hor
    go_wp2_with fail
    refine (cmp_ref _ _ _ _ _ hor2.num hyn (by omega) (by rw [HM.out]; omega)).mono ?_
    rw [val_lim, val_lim]
    rintro e w7 ⟨rfl, rfl⟩
    by_cases hc : R < Y
    ·
     rw [cmpN_lt hc]
     have HN : Hid (A / 2 ^ j % Y = R ∧ A / 2 ^ j / Y = 2 * (X / Y)) := by
      have := div_two_no HR.out hc HYP.out.1
      exact ⟨by rw [HSP.out]; exact this.2, by rw [HSP.out]; exact this.1⟩
     clear hc hyn hrY
     go_wp2
     go_roundw
     case rel =>
      refine ⟨j, zs, by omega, by go_num, HZ.out, hcs, ?_, hbel, ?_⟩
      · rw [HN.out.1]; exact hor2
      · rw [HN.out.2, HIX.out, Nat.pow_succ, Nat.mul_comm 2 (X / Y), Nat.mul_assoc, Nat.mul_comm 2]
     case measure => simp [intOf]
    ·
     have hcm : 0 ≤ cmpN R Y := by
      rcases cmpN_cases R Y with ⟨h, e⟩ | ⟨h, e⟩ | ⟨h, e⟩ <;> rw [e] <;> omega
     have HN : Hid (A / 2 ^ j % Y = R - Y ∧ A / 2 ^ j / Y = 2 * (X / Y) + 1) := by
      have := div_two_yes HR.out ht1 (by omega) HYP.out.1
      exact ⟨by rw [HSP.out]; exact this.2, by rw [HSP.out]; exact this.1⟩
     have hsub := sub_ref_yes _ _ _ _ w7 hor2.num hyn (by omega) (by rw [HM.out]; omega) (by rw [val_lim, val_lim]; omega)
     rw [val_lim, val_lim] at hsub
     generalize cmpN R Y = cm at *
     clear hyn hrY hc
     go_wp2_with fail
     refine hsub.mono ?_
     rintro e w8 ⟨r3, rfl, hor3, b8⟩
     have hg8 : g + 1 ≤ w7.heap.size := (Array.getElem?_eq_some_iff.1 hcs.2).1
     replace hcs := hcs.below b8
     replace hbel := bstep hbel b8
     replace hor3 := hor3.mono (B' := g + 1) hg8
     obtain ⟨ro3, rl3, rc3, rfl⟩ := hor3.sl
     clear hor2 hsub b8
     obtain ⟨q, hq⟩ : ∃ q, q = j / 32 := ⟨_, rfl⟩
     obtain ⟨r, hr⟩ : ∃ r, r = j % 32 := ⟨_, rfl⟩
     have e1 : (j : Int) / 32 = (q : Int) := by omega
     have e2 : (j : Int) % 32 = (r : Int) := by omega
     have e3 : (j : Int).tdiv 32 = (q : Int) := by rw [Int.tdiv_eq_ediv_of_nonneg (by omega)]; exact e1
     have e4 : (j : Int).tmod 32 = (r : Int) := by rw [Int.tmod_eq_emod_of_nonneg (by omega)]; exact e2
     have hr1 : r ≤ 31 := by omega
     have hqL : q < L := by have := HL.out; omega
     have hqL' : (q : Int) < (L : Int) := by omega
     have hq0 : (0 : Int) ≤ (q : Int) := by omega
     have hpl := pow_place j
     rw [← hq, ← hr] at hpl
     have hroom := limb_room hcs.1 HIX.out hpl hr1
     have hpull := pull_bit (r := r) (q := q) (by rw [HZ.out]; exact hqL) HIX.out hpl
     obtain ⟨cz, hfz⟩ := hcs.cell (k := q) (by rw [HZ.out]; exact hqL)
     obtain ⟨z, hz⟩ : ∃ z, z = zs.getD q 0 := ⟨_, rfl⟩
     rw [← hz] at cz hroom hpull
     obtain ⟨T, hT⟩ : ∃ T, T = 2 ^ r := ⟨_, rfl⟩
     rw [← hT] at hroom hpull
     have eT : (1 : Int) * 2 ^ r = (T : Int) := by rw [hT]; simp
     have eT2 : (2 : Int) ^ r = (T : Int) := by rw [hT]; simp
     have k1 : IntKind.i64.wrap (q : Int) = (q : Int) := by rw [IntKind.wrap_i64]; omega
     have k3 : IntKind.u32.wrap (T : Int) = (T : Int) := by rw [IntKind.wrap_u32]; omega
     have k4 : IntKind.u32.wrap ((z : Int) + (T : Int)) = (z : Int) + (T : Int) := by rw [IntKind.wrap_u32]; omega
     have k5 : (r : Int) ≤ 32 := by omega
     have hset := hcs.set q (z + T) (by omega)
     have hbel2 := hbel.setCell (p := ⟨g, q, none⟩) (by show _ ≤ g; rw [HG.out]; exact Nat.le_refl _) (U (z + T))
     have hor4 : Own (g + 1) 37 (w8.setCell ⟨g, q, none⟩ (U (z + T))) (.slice ro3 rl3 rc3) (lim (R - Y)) := ⟨hor3.1, ownsRow_setCell_below hor3.2 (Nat.lt_succ_self g) _⟩
     rw [show U (z + T) = .int .u32 ((z : Int) + (T : Int)) by simp [U]] at hset hbel2 hor4
     have HP : Hid (val (zs.set q (z + T)) = (2 * (X / Y) + 1) * 2 ^ j) := hpull
     have hT31 : T ≤ 2147483648 := by rw [hT]; exact Nat.le_trans (Nat.pow_le_pow_right (by decide) hr1) (by decide)
     clear hq hr hpl hz hT hcs hbel hor3 hpull
     go_wp2
     go_region
     all_goals
      go_wp2
      go_roundw
      case rel => 
       refine ⟨j, _, by omega, by go_num, by rw [List.length_set]; exact HZ.out, ⟨hset.1, hset.2⟩, ?_, hbel2.drew, ?_⟩
       · rw [HN.out.1]; exact hor4
       · rw [HN.out.2]; exact HP.out
      case measure => simp [intOf]
   ·
    have hi1 : i = 0 := by omega
    subst hi1
    have hge : ¬ (0 : Int) ≤ ((0 : Nat) : Int) - 1 := by omega
    have hfin := HI.out
    rw [Nat.pow_zero, Nat.div_one, Nat.mul_one] at hfin
    rw [Nat.pow_zero, Nat.div_one] at hor
    have hny : Num wr (.slice (some ⟨g, 0, none⟩) L L) zs := by
     have := (hcs.own (B := 0) (Nat.zero_le _) (by rw [HZ.out]; omega)).num
     rw [HZ.out] at this; exact this
    have HH : Hid (val zs = A / Y) := hfin
    have hBW : Below w.heap.size w wr := b1.trans (hbel.mono b1.size)
    clear hfin hcs
    go_wp2_with fail
    refine (norm_ref _ _ _ hny (by rw [HZ.out]; omega)).mono ?_
    rintro e w3 ⟨o, rfl, hoo, hb3⟩
    rw [HH.out] at hoo
    obtain ⟨oo, ol, oc, rfl⟩ := hoo.sl
    have HE : Hid (RDivEnd w (val xs) Y (.returned (.tuple #[.slice oo ol oc, .slice ro rl rc, .int .i64 0])) w3) := by
     show RDivEnd _ _ _ _ _
     rw [HA.out]
     refine ⟨_, _, by rw [HYP.out.2], hoo.mono hBW.size, ?_, bstep hBW hb3⟩
     have h1 := (hor.below hb3).mono (B' := w.heap.size) (Nat.le_trans b1.size (by rw [HG.out]; exact Nat.le_succ _))
     have h2 : modZ A Y = A % Y := by unfold modZ; rw [if_neg (by have := HYP.out.1; omega)]
     rw [h2]; exact h1
    clear hoo hb3 hbel hny hor hBW
    go_wp2_with fail
    go_ret3
    exact HE.out
open Go.RowKit

theorem half_ref (u : Value) (xs : List Nat) (w : World) (h : Num w u xs) (hlen : xs.length ≤ 1000000) :
  Calls Tryz.prog 126 #[u] w fun e w' => Made' w.heap.size w (lim (val xs / 2)) e w' := by
 obtain ⟨hbx, ao, cap, rfl, hca, hma, _, hcell⟩ := h.open_
 obtain ⟨i0, hi, hz0, hz1, hz2⟩ := info_parts Tryz.infoU
 obtain ⟨n, hn⟩ : ∃ n, n = xs.length := ⟨_, rfl⟩
 rw [← hn] at hlen hca ⊢
 have HN : Hid (n = xs.length) := hn
 clear hn h
 go_enter Tryz.func126, Tryz.ntmps126
 go_wp2_with (at_make; refine wpList_make_full _ rfl _ _ 23 rfl w.heap.size 37 i0 (.int .u32 0) 1 Tryz.underlying23 hi hz0 hz1 _ _ _ _ n rfl rfl (by omega) (by omega) (by rw [hz2]; omega) (by unfold maxLen; omega) (Nat.le_refl _) ?_)
 intro w2 ho2 hg2
 have how := own_made ho2
 have hbel : Below w.heap.size w w2 := (Below.refl w.heap.size w).grown hg2 (Nat.le_refl _) (by intro k hk; simp at hk)
 obtain ⟨g, hg⟩ : ∃ g, g = w.heap.size := ⟨_, rfl⟩
 have HB : Hid (Below w.heap.size w w2 ∧ Cells w2 g (List.replicate n 0)) := by rw [hg]; exact ⟨hbel, how.cells⟩
 have HG : Hid (g = w.heap.size) := hg
 rw [← hg]
 clear hg hbel how ho2 hg2
 go_wp2
 go_loopw [4, 5] (fun lv t wr => ∃ (i l : Nat) (ys : List Nat), i ≤ n ∧ t = .int .i64 ((i : Int) - 1) ∧ lv = .int .u64 l ∧ l < 2 ∧ ys.length = n ∧ Cells wr g ys ∧ Below w.heap.size w wr ∧ val (ys.drop i) * 2 + l = val (xs.drop i)) (fun _ t _ => (intOf t + 1).toNat)
 case atStart =>
  refine ⟨n, 0, List.replicate n 0, Nat.le_refl _, rfl, rfl, by omega, by simp, HB.out.2, HB.out.1, ?_⟩
  rw [List.drop_of_length_le (by simp), List.drop_of_length_le (by rw [← HN.out]; exact Nat.le_refl _)]
  simp [val]
 case round =>
  clear HB
  obtain ⟨i, l, ys, hin, rfl, rfl, hlb, hyl, hcs, hbel, hinv⟩ := hrel
  have HY : Hid (ys.length = n) := hyl
  have HI : Hid (val (ys.drop i) * 2 + l = val (xs.drop i)) := hinv
  clear hyl hinv
  by_cases hi0 : 0 < i
  ·
   obtain ⟨j, rfl⟩ : ∃ j, i = j + 1 := ⟨i - 1, by omega⟩
   rw [show ((j + 1 : Nat) : Int) - 1 = (j : Int) by omega]
   have hge : (0 : Int) ≤ (j : Int) := by omega
   have hjn : (j : Int) < (n : Int) := by omega
   obtain ⟨bb, bo, rfl, hx1⟩ := hcell j (by rw [← HN.out]; omega)
   have cx : wr.cell? ⟨bb, bo + j, none⟩ = some (.int .u32 ((xs.getD j 0 : Nat) : Int)) := by rw [hbel.cell (p := ⟨bb, bo + j, none⟩) (block_lt_of_cell hx1)]; exact hx1
   have hx0 := limb_lt hbx j
   obtain ⟨z, hz⟩ : ∃ z, z = xs.getD j 0 := ⟨_, rfl⟩
   rw [← hz] at cx hx0
   have HZ : Hid (z = xs.getD j 0) := hz
   obtain ⟨cz, hfz⟩ := hcs.cell (k := j) (by rw [HY.out]; omega)
   obtain ⟨y, hy⟩ : ∃ y, y = ys.getD j 0 := ⟨_, rfl⟩
   rw [← hy] at cz
   have hT1 : l * 4294967296 + z ≤ 8589934591 := by omega
   have hset := hcs.set j ((l * 4294967296 + z) / 2) (by omega)
   have hbel2 := hbel.setCell (p := ⟨g, j, none⟩) (by show _ ≤ g; rw [HG.out]; exact Nat.le_refl _) (U ((l * 4294967296 + z) / 2))
   rw [show U ((l * 4294967296 + z) / 2) = .int .u32 (((l : Int) * 4294967296 + (z : Int)) / 2) by simp [U]] at hset hbel2
   clear hz hy hcs hbel hcell hx1
   go_wp2
   go_roundw
   case rel =>
    refine ⟨j, (l * 4294967296 + z) % 2, _, by omega, by go_num, by go_num, by omega, by rw [List.length_set]; exact HY.out, hset, hbel2, ?_⟩
    exact div_by_step (by rw [HY.out]; omega) HI.out (by rw [← HZ.out]; omega)
   case measure => simp [intOf]
  ·
   have hi1 : i = 0 := by omega
   subst hi1
   have hge : ¬ (0 : Int) ≤ ((0 : Nat) : Int) - 1 := by omega
   have hfin := HI.out
   rw [List.drop_zero, List.drop_zero] at hfin
   have h1 : val xs % 2 = l := by omega
   have h2 : val ys = val xs / 2 := by omega
   have hny : Num wr (.slice (some ⟨g, 0, none⟩) n n) ys := by
    have := (hcs.own (B := 0) (Nat.zero_le _) (by rw [HY.out]; omega)).num
    rw [HY.out] at this; exact this
   have HH : Hid (val xs % 2 = l ∧ val ys = val xs / 2) := ⟨h1, h2⟩
   clear h1 h2 hfin hcs hcell
   go_wp2_with fail
   refine (norm_ref _ _ _ hny (by rw [HY.out]; omega)).mono ?_
   rintro e w3 ⟨o, rfl, hoo, hb3⟩
   rw [HH.out.2] at hoo
   have HE : Hid (Made' w.heap.size w (lim (val xs / 2)) (.returned o) w3) := ⟨o, rfl, hoo.mono hbel.size, hbel.trans (hb3.mono hbel.size)⟩
   clear hoo hb3 hbel hny
   go_wp2_with fail
   go_ret
   exact HE.out
theorem even_val {xs : List Nat} : val xs % 2 = xs.getD 0 0 % 2 := by rw [val_tail xs]; omega
theorem even_ref (u : Value) (xs : List Nat) (w : World) (h : Num w u xs) :
  Calls Tryz.prog 125 #[u] w fun e w' => e = .returned (.bool (decide (val xs % 2 = 0))) ∧ w' = w := by
 obtain ⟨hbx, ao, cap, rfl, hca, hma, _, hcell⟩ := h.open_
 obtain ⟨n, hn⟩ : ∃ n, n = xs.length := ⟨_, rfl⟩
 rw [← hn] at hca ⊢
 by_cases h0 : n = 0
 ·
  have hx : xs = [] := List.eq_nil_of_length_eq_zero (by omega)
  have HE : Hid ((.returned (.bool true) : Ending) = .returned (.bool (decide (val xs % 2 = 0)))) := by rw [hx]; rfl
  subst h0
  clear hn hcell hx h
  go_enter Tryz.func125, Tryz.ntmps125
  go_wp2
  go_ret
  exact ⟨HE.out, rfl⟩
 ·
  have h0' : ((n : Int) == 0) = false := by simp; omega
  have h1' : (0 : Int) < (n : Int) := by omega
  obtain ⟨b, off, rfl, hc⟩ := hcell 0 (by omega)
  rw [Nat.add_zero] at hc
  have hx0 := limb_lt hbx 0
  have hev := even_val (xs := xs)
  obtain ⟨x, hx⟩ : ∃ x, x = xs.getD 0 0 := ⟨_, rfl⟩
  rw [← hx] at hc hx0 hev
  have HEV : Hid (val xs % 2 = x % 2) := hev
  clear hev hx hn hcell h
  rcases (show x % 2 = 0 ∨ x % 2 = 1 by omega) with h2 | h2
  ·
   have e2 : (x : Int) % 2 = 0 := by omega
   have HE : Hid ((.returned (.bool true) : Ending) = .returned (.bool (decide (val xs % 2 = 0)))) := by show _ = _; rw [HEV.out, h2]; rfl
   clear h2
   go_enter Tryz.func125, Tryz.ntmps125
   go_wp2
   go_ret
   exact ⟨HE.out, rfl⟩
  ·
   have e2 : (x : Int) % 2 = 1 := by omega
   have HE : Hid ((.returned (.bool false) : Ending) = .returned (.bool (decide (val xs % 2 = 0)))) := by show _ = _; rw [HEV.out, h2]; rfl
   clear h2
   go_enter Tryz.func125, Tryz.ntmps125
   go_wp2
   go_ret
   exact ⟨HE.out, rfl⟩
open Go.RowKit

theorem Num.unique {w : World} {v : Value} {xs ys : List Nat} (h : Num w v xs) (g : Num w v ys) : xs = ys := by
 obtain ⟨_, ao, cap, e, _, _, _, h4⟩ := h
 obtain ⟨_, ao', cap', e', _, _, _, g4⟩ := g
 rw [e] at e'
 simp only [Value.slice.injEq] at e'
 obtain ⟨rfl, hl, rfl⟩ := e'
 apply List.ext_getElem hl
 intro j h1 h2
 obtain ⟨b, off, e1, c1⟩ := h4 j h1
 obtain ⟨b', off', e2, c2⟩ := g4 j h2
 rw [e1] at e2
 simp only [Option.some.injEq, Addr.mk.injEq, and_true] at e2
 obtain ⟨rfl, rfl⟩ := e2
 rw [c1] at c2
 simp only [U, Option.some.injEq, Value.int.injEq, true_and] at c2
 rw [List.getD_eq_getElem?_getD, List.getElem?_eq_getElem h1, List.getD_eq_getElem?_getD, List.getElem?_eq_getElem h2] at c2
 simp at c2; omega
open Classical in
noncomputable def valAt (w : World) (v : Value) : Nat := if h : ∃ xs, Num w v xs then val (Classical.choose h) else 0
theorem valAt_eq {w : World} {v : Value} {xs : List Nat} (h : Num w v xs) : valAt w v = val xs := by
 have hx : ∃ xs, Num w v xs := ⟨xs, h⟩
 unfold valAt
 rw [dif_pos hx]
 congr 1
 exact (Classical.choose_spec hx).unique h
open Go.RowKit

theorem lim_le_k {a b k : Nat} (h : a ≤ b) (hb : (lim b).length ≤ k) : (lim a).length ≤ k := lim_len_le (Nat.lt_of_le_of_lt h (lim_lt_of_len hb))
theorem lim_half {n k : Nat} (h : (lim n).length ≤ k) : (lim (n / 2)).length ≤ k := lim_len_le (Nat.lt_of_le_of_lt (Nat.div_le_self _ _) (lim_lt_of_len h))
theorem lim_diff {n m k : Nat} (h : (lim n).length ≤ k) : (lim (n - m)).length ≤ k := lim_len_le (Nat.lt_of_le_of_lt (Nat.sub_le _ _) (lim_lt_of_len h))
theorem twos_bound {t G x k : Nat} (h : 2 ^ t * x = G) (hx : 0 < G) (hk : (lim G).length ≤ k) : t < 32 * k := by
 have h1 : G < 4294967296 ^ k := lim_lt_of_len hk
 have h2 : (4294967296 : Nat) ^ k = 2 ^ (32 * k) := by rw [Nat.pow_mul]
 have h3 : 2 ^ t ≤ G := by
  rcases Nat.eq_zero_or_pos x with h0 | h0
  · rw [h0, Nat.mul_zero] at h; omega
  · rw [← h]; exact Nat.le_mul_of_pos_right _ h0
 rw [h2] at h1
 exact (Nat.pow_lt_pow_iff_right (by decide : 1 < 2)).1 (Nat.lt_of_le_of_lt h3 h1)
theorem lim_ne_len {n : Nat} (h : n ≠ 0) : 0 < (lim n).length := by
 rcases Nat.eq_zero_or_pos (lim n).length with h0 | h0
 · exact absurd (lim_len_zero h0) h
 · exact h0
theorem gcd_len {X Y G k : Nat} (hX : 0 < X) (h : Nat.gcd X Y = G) (hk : (lim X).length ≤ k) : (lim G).length ≤ k := by
 rw [← h]
 exact lim_len_le (Nat.lt_of_le_of_lt (Nat.gcd_le_left Y hX) (lim_lt_of_len hk))
structure Two (B : Nat) (w0 w : World) (x y : Value) (X Y : Nat) : Prop where
 ox : Own B 37 w x (lim X)
 oy : Own B 37 w y (lim Y)
 lx : (lim X).length ≤ 4000
 ly : (lim Y).length ≤ 4000
 bel : Below w0.heap.size w0 w
theorem gcd_ref (u v : Value) (xs ys : List Nat) (w : World) (hu : Num w u xs) (hv : Num w v ys) (lx : xs.length ≤ 4000) (ly : ys.length ≤ 4000) :
  Calls Tryz.prog 100 #[u, v] w fun e w' => Made' w.heap.size w (lim (Nat.gcd (val xs) (val ys))) e w' := by
 obtain ⟨A, hA⟩ : ∃ A, A = val xs := ⟨_, rfl⟩
 obtain ⟨Bn, hB⟩ : ∃ B, B = val ys := ⟨_, rfl⟩
 have hlA : (lim A).length ≤ 4000 := by rw [hA]; exact Nat.le_trans (lim_len_le (val_lt hu.1)) lx
 have hlB : (lim Bn).length ≤ 4000 := by rw [hB]; exact Nat.le_trans (lim_len_le (val_lt hv.1)) ly
 obtain ⟨G, hG⟩ : ∃ G, G = Nat.gcd A Bn := ⟨_, rfl⟩
 rw [← hA, ← hB, ← hG]
 have HG : Hid (Nat.gcd A Bn = G) := hG.symm
 have HA : Hid (val xs = A) := hA.symm
 have HB : Hid (val ys = Bn) := hB.symm
 clear hG hA hB
 go_enter Tryz.func100, Tryz.ntmps100
 go_wp2_with fail
 refine (norm_ref _ _ _ hu (by omega)).mono ?_
 rw [HA.out]
 rintro e w2 ⟨a1, rfl, ha1, b2⟩
 replace hv := hv.below (Nat.le_refl _) b2
 obtain ⟨ao, ac, rfl, hac, ham⟩ := ha1.num.ao
 go_wp2_with fail
 refine (norm_ref _ _ _ hv (by omega)).mono ?_
 rw [HB.out]
 rintro e w3 ⟨b1, rfl, hb1, b3⟩
 obtain ⟨bo, bc, rfl, hbc, hbm⟩ := hb1.num.ao
 replace ha1 := ha1.below b3
 replace hb1 := hb1.mono (B' := w.heap.size) b2.size
 have hbw := bstep b2 b3
 clear hu hv b2 b3 HA HB lx ly
 obtain ⟨al, hal⟩ : ∃ l, l = (lim A).length := ⟨_, rfl⟩
 obtain ⟨bl_, hbl⟩ : ∃ l, l = (lim Bn).length := ⟨_, rfl⟩
 have HAL : Hid (al = (lim A).length) := hal
 have HBL : Hid (bl_ = (lim Bn).length) := hbl
 rw [← hal] at ha1 hac hlA ⊢
 rw [← hbl] at hb1 hbc hlB ⊢
 clear hal hbl
 by_cases ha0 : al = 0
 ·
  have hA0 : A = 0 := lim_len_zero (by rw [← HAL.out]; exact ha0)
  have HE : Hid (Made' w.heap.size w (lim G) (.returned (.slice bo bl_ bc)) w3) := ⟨_, rfl, by rw [← HG.out, hA0, Nat.gcd_zero_left]; exact hb1, hbw⟩
  subst ha0
  clear hA0 ha1 hb1 hbw
  go_wp2_with fail
  go_ret
  exact HE.out
 ·
  have ha0' : ((al : Int) == 0) = false := by simp; omega
  have hAp : A ≠ 0 := by intro h; apply ha0; rw [HAL.out, h]; rfl
  by_cases hb0 : bl_ = 0
  ·
   have hB0 : Bn = 0 := lim_len_zero (by rw [← HBL.out]; exact hb0)
   have HE : Hid (Made' w.heap.size w (lim G) (.returned (.slice ao al ac)) w3) := ⟨_, rfl, by rw [← HG.out, hB0, Nat.gcd_zero_right]; exact ha1, hbw⟩
   subst hb0
   clear hB0 ha1 hb1 hbw hAp
   go_wp2_with fail
   go_ret
   exact HE.out
  ·
   have hb0' : ((bl_ : Int) == 0) = false := by simp; omega
   have hBp : Bn ≠ 0 := by intro h; apply hb0; rw [HBL.out, h]; rfl
   have HGP : Hid (0 < G ∧ (lim G).length ≤ 4000) := by
    refine ⟨by rw [← HG.out]; exact Nat.gcd_pos_of_pos_left _ (by omega), gcd_len (X := A) (Y := Bn) (by omega) HG.out (by rw [← HAL.out]; exact hlA)⟩
   have HT : Hid (Two w.heap.size w w3 (.slice ao al ac) (.slice bo bl_ bc) A Bn ∧ A ≠ 0 ∧ Bn ≠ 0) := ⟨⟨ha1, hb1, by rw [← HAL.out]; exact hlA, by rw [← HBL.out]; exact hlB, hbw⟩, hAp, hBp⟩
   clear ha1 hb1 hbw ha0 hb0 hAp hBp hlA hlB HAL HBL hac ham hbc hbm
   go_wp2_with fail
   go_loopw [5, 6, 7] (fun xv yv tv wr => ∃ (X Y t : Nat), Two w.heap.size w wr xv yv X Y ∧ X ≠ 0 ∧ Y ≠ 0 ∧ tv = .int .i64 t ∧ 2 ^ t * Nat.gcd X Y = G) (fun xv _ _ wr => valAt wr xv)
   case atStart => exact ⟨A, Bn, 0, HT.out.1, HT.out.2.1, HT.out.2.2, rfl, by rw [Nat.pow_zero, Nat.one_mul]; exact HG.out⟩
   case round =>
    clear HT HG
    obtain ⟨X, Y, t, hT, hX, hY, rfl, hg⟩ := hrel
    have ht32 : t < 128000 := twos_bound hg HGP.out.1 HGP.out.2
    obtain ⟨xo, xc, rfl, hxc, hxm⟩ := hT.ox.num.ao
    obtain ⟨yo, yc, rfl, hyc, hym⟩ := hT.oy.num.ao
    obtain ⟨xl, hxl⟩ : ∃ l, l = (lim X).length := ⟨_, rfl⟩
    obtain ⟨yl, hyl⟩ : ∃ l, l = (lim Y).length := ⟨_, rfl⟩
    have hlx := hT.lx
    have hly := hT.ly
    rw [← hxl] at hT hxc hlx ⊢
    rw [← hyl] at hT hyc hly ⊢
    clear hxl hyl
    have HM0 : Hid (valAt wr (.slice xo xl xc) = X) := by show _ = _; rw [valAt_eq hT.ox.num, val_lim]
    have hevx := even_ref _ _ wr hT.ox.num
    rw [val_lim] at hevx
    have hevy := even_ref _ _ wr hT.oy.num
    rw [val_lim] at hevy
    clear hxc hxm hyc hym
    by_cases hx2 : X % 2 = 0
    ·
     rw [decide_eq_true hx2] at hevx
     have HX2 : Hid (X % 2 = 0) := hx2
     by_cases hy2 : Y % 2 = 0
     ·
      rw [decide_eq_true hy2] at hevy
      have HY2 : Hid (Y % 2 = 0) := hy2
      clear hx2 hy2
      go_wp2_with fail
      refine hevx.mono ?_
      rintro e w6 ⟨rfl, rfl⟩
      go_wp2_with fail
      refine hevy.mono ?_
      rintro e w6 ⟨rfl, rfl⟩
      clear hevx hevy
      go_wp2_with fail
      refine (half_ref _ _ _ hT.ox.num (Nat.le_trans hT.lx (by decide))).mono ?_
      rw [val_lim]
      rintro e w7 ⟨x2, rfl, ho2, b7⟩
      obtain ⟨xo2, xl2, xc2, rfl⟩ := ho2.sl
      go_wp2_with fail
      refine (half_ref _ _ _ (hT.oy.below b7).num (Nat.le_trans hT.ly (by decide))).mono ?_
      rw [val_lim]
      rintro e w8 ⟨y2, rfl, ho3, b8⟩
      have HN : Hid (Two w.heap.size w w8 (.slice xo2 xl2 xc2) y2 (X / 2) (Y / 2) ∧ X / 2 ≠ 0 ∧ Y / 2 ≠ 0 ∧ 2 ^ (t + 1) * Nat.gcd (X / 2) (Y / 2) = G) := by
       refine ⟨⟨(ho2.mono hT.bel.size).below b8, ho3.mono (Nat.le_trans hT.bel.size b7.size), lim_half hT.lx, lim_half hT.ly, bstep (bstep hT.bel b7) b8⟩, by have := HX2.out; omega, by have := HY2.out; omega, ?_⟩
       rw [Nat.pow_succ, Nat.mul_assoc, ← gcd_halves HX2.out HY2.out]; exact hg
      have HLT : Hid (valAt w8 (.slice xo2 xl2 xc2) < X) := by show _ < _; rw [valAt_eq HN.out.1.ox.num, val_lim]; omega
      obtain ⟨yo2, yl2, yc2, rfl⟩ := ho3.sl
      clear ho2 ho3 b7 b8 hT hX hY hg
      go_wp2_with fail
      go_roundw
      case rel => exact ⟨_, _, t + 1, HN.out.1, HN.out.2.1, HN.out.2.2.1, by go_num, HN.out.2.2.2⟩
      case measure => rw [HM0.out]; exact HLT.out
     ·
      rw [decide_eq_false hy2] at hevy
      have hodd := gcd_odd (x := X) (y := Y) (fun h => hy2 h.2)
      obtain ⟨G', hg1⟩ : ∃ g, Nat.gcd X Y = g := ⟨_, rfl⟩
      rw [hg1] at hg hodd
      have HG2 : Hid (2 ^ t * G' = G) := hg
      have HO : Hid (G' % 2 = 1) := hodd
      have HG1 : Hid (Nat.gcd X Y = G') := hg1
      clear hx2 hy2 hg HM0 hg1 hodd HX2
      go_wp2_with fail
      refine hevx.mono ?_
      rintro e w6 ⟨rfl, rfl⟩
      go_wp2_with fail
      refine hevy.mono ?_
      rintro e wr ⟨rfl, rfl⟩
      clear hevx hevy
      have HS : Hid (Two w.heap.size w wr (.slice xo xl xc) (.slice yo yl yc) X Y ∧ X ≠ 0 ∧ Nat.gcd X Y = G') := ⟨hT, hX, HG1.out⟩
      clear hT hX hY HG1 hlx hly
      go_wp2_with fail
      go_loopw [5, 6] (fun xv yv wr => ∃ (X Y : Nat), Two w.heap.size w wr xv yv X Y ∧ X ≠ 0 ∧ Nat.gcd X Y = G') (fun xv yv wr => valAt wr xv + valAt wr yv)
      case atStart => exact ⟨X, Y, HS.out⟩
      case round =>
       clear HS
       obtain ⟨X, Y, hT, hX, hg1⟩ := hrel
       obtain ⟨xo, xc, rfl, hxc, hxm⟩ := hT.ox.num.ao
       obtain ⟨yo, yc, rfl, hyc, hym⟩ := hT.oy.num.ao
       obtain ⟨xl, hxl⟩ : ∃ l, l = (lim X).length := ⟨_, rfl⟩
       obtain ⟨yl, hyl⟩ : ∃ l, l = (lim Y).length := ⟨_, rfl⟩
       have HXL : Hid (xl = (lim X).length) := hxl
       have HYL : Hid (yl = (lim Y).length) := hyl
       rw [← hxl] at hT hxc ⊢
       rw [← hyl] at hT hyc ⊢
       have hlx := hT.lx
       have hly := hT.ly
       rw [← hxl] at hlx
       rw [← hyl] at hly
       have HM : Hid (valAt wr (.slice xo xl xc) + valAt wr (.slice yo yl yc) = X + Y) := by show _ = _; rw [valAt_eq hT.ox.num, valAt_eq hT.oy.num, val_lim, val_lim]
       have Hg : Hid (Nat.gcd X Y = G') := hg1
       clear hxl hyl hg1
       by_cases hY0 : yl = 0
       ·
        have hYz : Y = 0 := lim_len_zero (by rw [← HYL.out]; exact hY0)
        have HS : Hid (Own w.heap.size 37 wr (.slice xo xl xc) (lim (2 ^ 0 * G')) ∧ Below w.heap.size w wr) := by
         refine ⟨?_, hT.bel⟩
         rw [Nat.pow_zero, Nat.one_mul, ← Hg.out, hYz, Nat.gcd_zero_right]
         exact hT.ox
        have hyz : ¬ (0 : Int) < (yl : Int) := by omega
        clear hT hX hYz HM Hg hY0 hxc hxm hyc hym
        go_wp2_with fail
        go_loopw [5, 8] (fun xv iv wr => ∃ i : Nat, i ≤ t ∧ iv = .int .i64 i ∧ Own w.heap.size 37 wr xv (lim (2 ^ i * G')) ∧ Below w.heap.size w wr) (fun _ iv _ => t - (intOf iv).toNat)
        case atStart => exact ⟨0, Nat.zero_le _, rfl, HS.out⟩
        case round =>
         clear HS
         obtain ⟨i, hit, rfl, hox, hbw⟩ := hrel
         obtain ⟨zo, zc, rfl, hzc, hzm⟩ := hox.num.ao
         by_cases hlt : i < t
         ·
          have hlt' : (i : Int) < (t : Int) := by omega
          have hll : (lim (2 ^ i * G')).length ≤ 4000 := by
           refine lim_le_k ?_ HGP.out.2
           rw [← HG2.out]
           exact Nat.mul_le_mul_right _ (Nat.pow_le_pow_right (by decide) (by omega))
          obtain ⟨zl, hzl⟩ : ∃ l, l = (lim (2 ^ i * G')).length := ⟨_, rfl⟩
          rw [← hzl] at hox hzc ⊢
          clear hzl
          go_wp2_with fail
          refine (double_ref _ _ 0 _ hox.num (by omega) (by decide)).mono ?_
          rintro e w9 ⟨d, ds, rfl, hod, hdv, hdl, hnorm, b9⟩
          rw [val_lim] at hnorm
          have HN : Hid (Own w.heap.size 37 w9 d (lim (2 ^ (i + 1) * G')) ∧ Below w.heap.size w w9) := by
           have e1 := hnorm rfl
           rw [e1] at hod
           refine ⟨?_, bstep hbw b9⟩
           rw [Nat.pow_succ, Nat.mul_comm (2 ^ i) 2, Nat.mul_assoc]
           exact hod.mono hbw.size
          obtain ⟨do_, dl, dc, rfl⟩ := hod.sl
          clear hod hdv hdl hnorm b9 hox hbw
          go_wp2
          go_roundw
          case rel => exact ⟨i + 1, by omega, by go_num, HN.out⟩
          case measure => simp [intOf]; omega
         ·
          have hlt' : ¬ (i : Int) < (t : Int) := by omega
          have hit2 : i = t := by omega
          have HE : Hid (Made' w.heap.size w (lim G) (.returned (.slice zo (lim (2 ^ i * G')).length zc)) wr) := ⟨_, rfl, by rw [← HG2.out, ← hit2]; exact hox, hbw⟩
          generalize (lim (2 ^ i * G')).length = zl at *
          clear hox hbw hit2
          go_wp2_with fail
          go_ret
          exact HE.out
       ·
        have hyz : 0 < yl := by omega
        have hYp : Y ≠ 0 := by intro h; apply hY0; rw [HYL.out, h]; rfl
        have HS : Hid (Two w.heap.size w wr (.slice xo xl xc) (.slice yo yl yc) X Y ∧ X ≠ 0 ∧ X ≤ X ∧ Nat.gcd X Y = G' ∧ Y ≠ 0) := ⟨hT, hX, Nat.le_refl _, Hg.out, hYp⟩
        clear hT hX Hg hY0 hYp hxc hxm hlx HXL
        go_wp2_with fail
        go_loopw [5] (fun xv wr => ∃ (X1 : Nat), Two w.heap.size w wr xv (.slice yo yl yc) X1 Y ∧ X1 ≠ 0 ∧ X1 ≤ X ∧ Nat.gcd X1 Y = G' ∧ Y ≠ 0) (fun xv wr => valAt wr xv)
        case atStart => exact ⟨X, HS.out⟩
        case round =>
         clear HS
         obtain ⟨X1, hT, hX, hXl, hg1, hYp⟩ := hrel
         obtain ⟨xo1, xl1, xc1, rfl⟩ := hT.ox.sl
         have HM1 : Hid (valAt wr (.slice xo1 xl1 xc1) = X1) := by show _ = _; rw [valAt_eq hT.ox.num, val_lim]
         have hev := even_ref _ _ wr hT.ox.num
         rw [val_lim] at hev
         by_cases hx2 : X1 % 2 = 0
         ·
          rw [decide_eq_true hx2] at hev
          have HX2 : Hid (X1 % 2 = 0) := hx2
          clear hx2
          go_wp2_with fail
          refine hev.mono ?_
          rintro e w6 ⟨rfl, rfl⟩
          clear hev
          go_wp2_with fail
          refine (half_ref _ _ _ hT.ox.num (Nat.le_trans hT.lx (by decide))).mono ?_
          rw [val_lim]
          rintro e w7 ⟨x2, rfl, ho2, b7⟩
          have HN : Hid (Two w.heap.size w w7 x2 (.slice yo yl yc) (X1 / 2) Y ∧ X1 / 2 ≠ 0 ∧ X1 / 2 ≤ X ∧ Nat.gcd (X1 / 2) Y = G' ∧ Y ≠ 0) :=
           ⟨⟨ho2.mono hT.bel.size, hT.oy.below b7, lim_half hT.lx, hT.ly, bstep hT.bel b7⟩, by have := HX2.out; omega, by omega, gcd_half_left hg1 HO.out HX2.out, hYp⟩
          have HLT : Hid (valAt w7 x2 < X1) := by show _ < _; rw [valAt_eq ho2.num, val_lim]; omega
          obtain ⟨xo2, xl2, xc2, rfl⟩ := ho2.sl
          clear ho2 b7 hT hX hXl hg1 hYp
          go_wp2_with fail
          go_roundw
          case rel => exact ⟨_, HN.out⟩
          case measure => rw [HM1.out]; exact HLT.out
         ·
          rw [decide_eq_false hx2] at hev
          have HX1 : Hid (X1 ≠ 0 ∧ X1 ≤ X ∧ X1 % 2 = 1) := ⟨hX, hXl, by omega⟩
          have HS : Hid (Two w.heap.size w wr (.slice xo1 xl1 xc1) (.slice yo yl yc) X1 Y ∧ Y ≠ 0 ∧ Y ≤ Y ∧ Nat.gcd X1 Y = G') := ⟨hT, hYp, Nat.le_refl _, hg1⟩
          clear hX hXl hx2 hT hg1 hYp HM1 hyc hym hly HYL
          go_wp2_with fail
          refine hev.mono ?_
          rintro e w6 ⟨rfl, rfl⟩
          clear hev
          go_wp2_with fail
          go_loopw [6] (fun yv wr => ∃ (Y1 : Nat), Two w.heap.size w wr (.slice xo1 xl1 xc1) yv X1 Y1 ∧ Y1 ≠ 0 ∧ Y1 ≤ Y ∧ Nat.gcd X1 Y1 = G') (fun yv wr => valAt wr yv)
          case atStart => exact ⟨Y, HS.out⟩
          case round =>
           clear HS
           obtain ⟨Y1, hT, hYp, hYl, hg1⟩ := hrel
           obtain ⟨yo1, yc1, rfl, hyc, hym⟩ := hT.oy.num.ao
           obtain ⟨yl1, hyl1⟩ : ∃ l, l = (lim Y1).length := ⟨_, rfl⟩
           have hl0 := lim_ne_len hYp
           have hly := hT.ly
           rw [← hyl1] at hT hyc hl0 hly ⊢
           clear hyl1
           have HM1 : Hid (valAt wr (.slice yo1 yl1 yc1) = Y1) := by show _ = _; rw [valAt_eq hT.oy.num, val_lim]
           have hev := even_ref _ _ wr hT.oy.num
           rw [val_lim] at hev
           by_cases hy2 : Y1 % 2 = 0
           ·
            rw [decide_eq_true hy2] at hev
            have HY2 : Hid (Y1 % 2 = 0) := hy2
            clear hy2
            go_wp2_with fail
            refine hev.mono ?_
            rintro e w6 ⟨rfl, rfl⟩
            clear hev
            go_wp2_with fail
            refine (half_ref _ _ _ hT.oy.num (Nat.le_trans hT.ly (by decide))).mono ?_
            rw [val_lim]
            rintro e w7 ⟨x2, rfl, ho2, b7⟩
            have HN : Hid (Two w.heap.size w w7 (.slice xo1 xl1 xc1) x2 X1 (Y1 / 2) ∧ Y1 / 2 ≠ 0 ∧ Y1 / 2 ≤ Y ∧ Nat.gcd X1 (Y1 / 2) = G') :=
             ⟨⟨hT.ox.below b7, ho2.mono hT.bel.size, hT.lx, lim_half hT.ly, bstep hT.bel b7⟩, by have := HY2.out; omega, by omega, gcd_half_right hg1 HO.out HY2.out⟩
            have HLT : Hid (valAt w7 x2 < Y1) := by show _ < _; rw [valAt_eq ho2.num, val_lim]; omega
            obtain ⟨xo2, xl2, xc2, rfl⟩ := ho2.sl
            clear ho2 b7 hT hYp hYl hg1 hyc hym hl0 hly
            go_wp2_with fail
            go_roundw
            case rel => exact ⟨_, HN.out⟩
            case measure => rw [HM1.out]; exact HLT.out
           ·
            rw [decide_eq_false hy2] at hev
            have HY1 : Hid (Y1 ≠ 0 ∧ Y1 ≤ Y) := ⟨hYp, hYl⟩
            clear hYp hYl hy2 HM1
            go_wp2_with fail
            refine hev.mono ?_
            rintro e w6 ⟨rfl, rfl⟩
            clear hev
            have hcmp := cmp_ref _ _ _ _ w6 hT.ox.num hT.oy.num (Nat.le_trans hT.lx (by decide)) (Nat.le_trans hT.ly (by decide))
            rw [val_lim, val_lim] at hcmp
            by_cases hc : Y1 < X1
            ·
             rw [cmpN_gt hc] at hcmp
             have hsub := sub_ref_yes _ _ _ _ w6 hT.ox.num hT.oy.num (Nat.le_trans hT.lx (by decide)) (Nat.le_trans hT.ly (by decide)) (by rw [val_lim, val_lim]; omega)
             rw [val_lim, val_lim] at hsub
             have HC : Hid (Y1 < X1) := hc
             clear hc
             go_wp2_with fail
             refine hcmp.mono ?_
             rintro e w7 ⟨rfl, rfl⟩
             go_wp2_with fail
             refine hsub.mono ?_
             rintro e w8 ⟨d, rfl, hod, b8⟩
             have HN : Hid (Two w.heap.size w w8 (.slice yo1 yl1 yc1) d Y1 (X1 - Y1) ∧ Y1 ≠ 0 ∧ Nat.gcd Y1 (X1 - Y1) = G') :=
              ⟨⟨hT.oy.below b8, hod.mono hT.bel.size, hT.ly, lim_diff hT.lx, bstep hT.bel b8⟩, HY1.out.1, by rw [gcd_less (Nat.le_of_lt HC.out), Nat.gcd_comm]; exact hg1⟩
             have HLT : Hid (valAt w8 (.slice yo1 yl1 yc1) + valAt w8 d < X + Y) := by
              show _ < _
              rw [valAt_eq HN.out.1.ox.num, valAt_eq HN.out.1.oy.num, val_lim, val_lim]
              have := HC.out; have := HY1.out; have := HX1.out; omega
             obtain ⟨xo2, xl2, xc2, rfl⟩ := hod.sl
             clear hod b8 hT hg1 hcmp hsub hyc hym hl0 hly
             go_wp2_with fail
             go_roundw
             case rel => exact ⟨_, _, HN.out⟩
             case measure => rw [HM.out]; exact HLT.out
            ·
             have hcm : ¬ (0 : Int) < cmpN X1 Y1 := by
              rcases cmpN_cases X1 Y1 with ⟨h, e⟩ | ⟨h, e⟩ | ⟨h, e⟩ <;> rw [e] <;> omega
             have hsub := sub_ref_yes _ _ _ _ w6 hT.oy.num hT.ox.num (Nat.le_trans hT.ly (by decide)) (Nat.le_trans hT.lx (by decide)) (by rw [val_lim, val_lim]; omega)
             rw [val_lim, val_lim] at hsub
             have HC : Hid (X1 ≤ Y1) := by show _ ≤ _; omega
             generalize cmpN X1 Y1 = cm at *
             clear hc
             go_wp2_with fail
             refine hcmp.mono ?_
             rintro e w7 ⟨rfl, rfl⟩
             go_wp2_with fail
             refine hsub.mono ?_
             rintro e w8 ⟨d, rfl, hod, b8⟩
             have HN : Hid (Two w.heap.size w w8 (.slice xo1 xl1 xc1) d X1 (Y1 - X1) ∧ X1 ≠ 0 ∧ Nat.gcd X1 (Y1 - X1) = G') :=
              ⟨⟨hT.ox.below b8, hod.mono hT.bel.size, hT.lx, lim_diff hT.ly, bstep hT.bel b8⟩, HX1.out.1, by rw [gcd_less HC.out]; exact hg1⟩
             have HLT : Hid (valAt w8 (.slice xo1 xl1 xc1) + valAt w8 d < X + Y) := by
              show _ < _
              rw [valAt_eq HN.out.1.ox.num, valAt_eq HN.out.1.oy.num, val_lim, val_lim]
              have := HC.out; have := HY1.out; have := HX1.out; omega
             obtain ⟨xo2, xl2, xc2, rfl⟩ := hod.sl
             clear hod b8 hT hg1 hcmp hsub hyc hym hl0 hly
             go_wp2_with fail
             go_roundw
             case rel => exact ⟨_, _, HN.out⟩
             case measure => rw [HM.out]; exact HLT.out
    ·
     rw [decide_eq_false hx2] at hevx
     have hodd := gcd_odd (x := X) (y := Y) (fun h => hx2 h.1)
     obtain ⟨G', hg1⟩ : ∃ g, Nat.gcd X Y = g := ⟨_, rfl⟩
     rw [hg1] at hg hodd
     have HG2 : Hid (2 ^ t * G' = G) := hg
     have HO : Hid (G' % 2 = 1) := hodd
     have HG1 : Hid (Nat.gcd X Y = G') := hg1
     clear hx2 hg hevy HM0 hg1 hodd
     go_wp2_with fail
     refine hevx.mono ?_
     rintro e wr ⟨rfl, rfl⟩
     clear hevx
     have HS : Hid (Two w.heap.size w wr (.slice xo xl xc) (.slice yo yl yc) X Y ∧ X ≠ 0 ∧ Nat.gcd X Y = G') := ⟨hT, hX, HG1.out⟩
     clear hT hX hY HG1 hlx hly
     go_wp2_with fail
     go_loopw [5, 6] (fun xv yv wr => ∃ (X Y : Nat), Two w.heap.size w wr xv yv X Y ∧ X ≠ 0 ∧ Nat.gcd X Y = G') (fun xv yv wr => valAt wr xv + valAt wr yv)
     case atStart => exact ⟨X, Y, HS.out⟩
     case round =>
      clear HS
      obtain ⟨X, Y, hT, hX, hg1⟩ := hrel
      obtain ⟨xo, xc, rfl, hxc, hxm⟩ := hT.ox.num.ao
      obtain ⟨yo, yc, rfl, hyc, hym⟩ := hT.oy.num.ao
      obtain ⟨xl, hxl⟩ : ∃ l, l = (lim X).length := ⟨_, rfl⟩
      obtain ⟨yl, hyl⟩ : ∃ l, l = (lim Y).length := ⟨_, rfl⟩
      have HXL : Hid (xl = (lim X).length) := hxl
      have HYL : Hid (yl = (lim Y).length) := hyl
      rw [← hxl] at hT hxc ⊢
      rw [← hyl] at hT hyc ⊢
      have hlx := hT.lx
      have hly := hT.ly
      rw [← hxl] at hlx
      rw [← hyl] at hly
      have HM : Hid (valAt wr (.slice xo xl xc) + valAt wr (.slice yo yl yc) = X + Y) := by show _ = _; rw [valAt_eq hT.ox.num, valAt_eq hT.oy.num, val_lim, val_lim]
      have Hg : Hid (Nat.gcd X Y = G') := hg1
      clear hxl hyl hg1
      by_cases hY0 : yl = 0
      ·
       have hYz : Y = 0 := lim_len_zero (by rw [← HYL.out]; exact hY0)
       have HS : Hid (Own w.heap.size 37 wr (.slice xo xl xc) (lim (2 ^ 0 * G')) ∧ Below w.heap.size w wr) := by
        refine ⟨?_, hT.bel⟩
        rw [Nat.pow_zero, Nat.one_mul, ← Hg.out, hYz, Nat.gcd_zero_right]
        exact hT.ox
       have hyz : ¬ (0 : Int) < (yl : Int) := by omega
       clear hT hX hYz HM Hg hY0 hxc hxm hyc hym
       go_wp2_with fail
       go_loopw [5, 8] (fun xv iv wr => ∃ i : Nat, i ≤ t ∧ iv = .int .i64 i ∧ Own w.heap.size 37 wr xv (lim (2 ^ i * G')) ∧ Below w.heap.size w wr) (fun _ iv _ => t - (intOf iv).toNat)
       case atStart => exact ⟨0, Nat.zero_le _, rfl, HS.out⟩
       case round =>
        clear HS
        obtain ⟨i, hit, rfl, hox, hbw⟩ := hrel
        obtain ⟨zo, zc, rfl, hzc, hzm⟩ := hox.num.ao
        by_cases hlt : i < t
        ·
         have hlt' : (i : Int) < (t : Int) := by omega
         have hll : (lim (2 ^ i * G')).length ≤ 4000 := by
          refine lim_le_k ?_ HGP.out.2
          rw [← HG2.out]
          exact Nat.mul_le_mul_right _ (Nat.pow_le_pow_right (by decide) (by omega))
         obtain ⟨zl, hzl⟩ : ∃ l, l = (lim (2 ^ i * G')).length := ⟨_, rfl⟩
         rw [← hzl] at hox hzc ⊢
         clear hzl
         go_wp2_with fail
         refine (double_ref _ _ 0 _ hox.num (by omega) (by decide)).mono ?_
         rintro e w9 ⟨d, ds, rfl, hod, hdv, hdl, hnorm, b9⟩
         rw [val_lim] at hnorm
         have HN : Hid (Own w.heap.size 37 w9 d (lim (2 ^ (i + 1) * G')) ∧ Below w.heap.size w w9) := by
          have e1 := hnorm rfl
          rw [e1] at hod
          refine ⟨?_, bstep hbw b9⟩
          rw [Nat.pow_succ, Nat.mul_comm (2 ^ i) 2, Nat.mul_assoc]
          exact hod.mono hbw.size
         obtain ⟨do_, dl, dc, rfl⟩ := hod.sl
         clear hod hdv hdl hnorm b9 hox hbw
         go_wp2
         go_roundw
         case rel => exact ⟨i + 1, by omega, by go_num, HN.out⟩
         case measure => simp [intOf]; omega
        ·
         have hlt' : ¬ (i : Int) < (t : Int) := by omega
         have hit2 : i = t := by omega
         have HE : Hid (Made' w.heap.size w (lim G) (.returned (.slice zo (lim (2 ^ i * G')).length zc)) wr) := ⟨_, rfl, by rw [← HG2.out, ← hit2]; exact hox, hbw⟩
         generalize (lim (2 ^ i * G')).length = zl at *
         clear hox hbw hit2
         go_wp2_with fail
         go_ret
         exact HE.out
      ·
       have hyz : 0 < yl := by omega
       have hYp : Y ≠ 0 := by intro h; apply hY0; rw [HYL.out, h]; rfl
       have HS : Hid (Two w.heap.size w wr (.slice xo xl xc) (.slice yo yl yc) X Y ∧ X ≠ 0 ∧ X ≤ X ∧ Nat.gcd X Y = G' ∧ Y ≠ 0) := ⟨hT, hX, Nat.le_refl _, Hg.out, hYp⟩
       clear hT hX Hg hY0 hYp hxc hxm hlx HXL
       go_wp2_with fail
       go_loopw [5] (fun xv wr => ∃ (X1 : Nat), Two w.heap.size w wr xv (.slice yo yl yc) X1 Y ∧ X1 ≠ 0 ∧ X1 ≤ X ∧ Nat.gcd X1 Y = G' ∧ Y ≠ 0) (fun xv wr => valAt wr xv)
       case atStart => exact ⟨X, HS.out⟩
       case round =>
        clear HS
        obtain ⟨X1, hT, hX, hXl, hg1, hYp⟩ := hrel
        obtain ⟨xo1, xl1, xc1, rfl⟩ := hT.ox.sl
        have HM1 : Hid (valAt wr (.slice xo1 xl1 xc1) = X1) := by show _ = _; rw [valAt_eq hT.ox.num, val_lim]
        have hev := even_ref _ _ wr hT.ox.num
        rw [val_lim] at hev
        by_cases hx2 : X1 % 2 = 0
        ·
         rw [decide_eq_true hx2] at hev
         have HX2 : Hid (X1 % 2 = 0) := hx2
         clear hx2
         go_wp2_with fail
         refine hev.mono ?_
         rintro e w6 ⟨rfl, rfl⟩
         clear hev
         go_wp2_with fail
         refine (half_ref _ _ _ hT.ox.num (Nat.le_trans hT.lx (by decide))).mono ?_
         rw [val_lim]
         rintro e w7 ⟨x2, rfl, ho2, b7⟩
         have HN : Hid (Two w.heap.size w w7 x2 (.slice yo yl yc) (X1 / 2) Y ∧ X1 / 2 ≠ 0 ∧ X1 / 2 ≤ X ∧ Nat.gcd (X1 / 2) Y = G' ∧ Y ≠ 0) :=
          ⟨⟨ho2.mono hT.bel.size, hT.oy.below b7, lim_half hT.lx, hT.ly, bstep hT.bel b7⟩, by have := HX2.out; omega, by omega, gcd_half_left hg1 HO.out HX2.out, hYp⟩
         have HLT : Hid (valAt w7 x2 < X1) := by show _ < _; rw [valAt_eq ho2.num, val_lim]; omega
         obtain ⟨xo2, xl2, xc2, rfl⟩ := ho2.sl
         clear ho2 b7 hT hX hXl hg1 hYp
         go_wp2_with fail
         go_roundw
         case rel => exact ⟨_, HN.out⟩
         case measure => rw [HM1.out]; exact HLT.out
        ·
         rw [decide_eq_false hx2] at hev
         have HX1 : Hid (X1 ≠ 0 ∧ X1 ≤ X ∧ X1 % 2 = 1) := ⟨hX, hXl, by omega⟩
         have HS : Hid (Two w.heap.size w wr (.slice xo1 xl1 xc1) (.slice yo yl yc) X1 Y ∧ Y ≠ 0 ∧ Y ≤ Y ∧ Nat.gcd X1 Y = G') := ⟨hT, hYp, Nat.le_refl _, hg1⟩
         clear hX hXl hx2 hT hg1 hYp HM1 hyc hym hly HYL
         go_wp2_with fail
         refine hev.mono ?_
         rintro e w6 ⟨rfl, rfl⟩
         clear hev
         go_wp2_with fail
         go_loopw [6] (fun yv wr => ∃ (Y1 : Nat), Two w.heap.size w wr (.slice xo1 xl1 xc1) yv X1 Y1 ∧ Y1 ≠ 0 ∧ Y1 ≤ Y ∧ Nat.gcd X1 Y1 = G') (fun yv wr => valAt wr yv)
         case atStart => exact ⟨Y, HS.out⟩
         case round =>
          clear HS
          obtain ⟨Y1, hT, hYp, hYl, hg1⟩ := hrel
          obtain ⟨yo1, yc1, rfl, hyc, hym⟩ := hT.oy.num.ao
          obtain ⟨yl1, hyl1⟩ : ∃ l, l = (lim Y1).length := ⟨_, rfl⟩
          have hl0 := lim_ne_len hYp
          have hly := hT.ly
          rw [← hyl1] at hT hyc hl0 hly ⊢
          clear hyl1
          have HM1 : Hid (valAt wr (.slice yo1 yl1 yc1) = Y1) := by show _ = _; rw [valAt_eq hT.oy.num, val_lim]
          have hev := even_ref _ _ wr hT.oy.num
          rw [val_lim] at hev
          by_cases hy2 : Y1 % 2 = 0
          ·
           rw [decide_eq_true hy2] at hev
           have HY2 : Hid (Y1 % 2 = 0) := hy2
           clear hy2
           go_wp2_with fail
           refine hev.mono ?_
           rintro e w6 ⟨rfl, rfl⟩
           clear hev
           go_wp2_with fail
           refine (half_ref _ _ _ hT.oy.num (Nat.le_trans hT.ly (by decide))).mono ?_
           rw [val_lim]
           rintro e w7 ⟨x2, rfl, ho2, b7⟩
           have HN : Hid (Two w.heap.size w w7 (.slice xo1 xl1 xc1) x2 X1 (Y1 / 2) ∧ Y1 / 2 ≠ 0 ∧ Y1 / 2 ≤ Y ∧ Nat.gcd X1 (Y1 / 2) = G') :=
            ⟨⟨hT.ox.below b7, ho2.mono hT.bel.size, hT.lx, lim_half hT.ly, bstep hT.bel b7⟩, by have := HY2.out; omega, by omega, gcd_half_right hg1 HO.out HY2.out⟩
           have HLT : Hid (valAt w7 x2 < Y1) := by show _ < _; rw [valAt_eq ho2.num, val_lim]; omega
           obtain ⟨xo2, xl2, xc2, rfl⟩ := ho2.sl
           clear ho2 b7 hT hYp hYl hg1 hyc hym hl0 hly
           go_wp2_with fail
           go_roundw
           case rel => exact ⟨_, HN.out⟩
           case measure => rw [HM1.out]; exact HLT.out
          ·
           rw [decide_eq_false hy2] at hev
           have HY1 : Hid (Y1 ≠ 0 ∧ Y1 ≤ Y) := ⟨hYp, hYl⟩
           clear hYp hYl hy2 HM1
           go_wp2_with fail
           refine hev.mono ?_
           rintro e w6 ⟨rfl, rfl⟩
           clear hev
           have hcmp := cmp_ref _ _ _ _ w6 hT.ox.num hT.oy.num (Nat.le_trans hT.lx (by decide)) (Nat.le_trans hT.ly (by decide))
           rw [val_lim, val_lim] at hcmp
           by_cases hc : Y1 < X1
           ·
            rw [cmpN_gt hc] at hcmp
            have hsub := sub_ref_yes _ _ _ _ w6 hT.ox.num hT.oy.num (Nat.le_trans hT.lx (by decide)) (Nat.le_trans hT.ly (by decide)) (by rw [val_lim, val_lim]; omega)
            rw [val_lim, val_lim] at hsub
            have HC : Hid (Y1 < X1) := hc
            clear hc
            go_wp2_with fail
            refine hcmp.mono ?_
            rintro e w7 ⟨rfl, rfl⟩
            go_wp2_with fail
            refine hsub.mono ?_
            rintro e w8 ⟨d, rfl, hod, b8⟩
            have HN : Hid (Two w.heap.size w w8 (.slice yo1 yl1 yc1) d Y1 (X1 - Y1) ∧ Y1 ≠ 0 ∧ Nat.gcd Y1 (X1 - Y1) = G') :=
             ⟨⟨hT.oy.below b8, hod.mono hT.bel.size, hT.ly, lim_diff hT.lx, bstep hT.bel b8⟩, HY1.out.1, by rw [gcd_less (Nat.le_of_lt HC.out), Nat.gcd_comm]; exact hg1⟩
            have HLT : Hid (valAt w8 (.slice yo1 yl1 yc1) + valAt w8 d < X + Y) := by
             show _ < _
             rw [valAt_eq HN.out.1.ox.num, valAt_eq HN.out.1.oy.num, val_lim, val_lim]
             have := HC.out; have := HY1.out; have := HX1.out; omega
            obtain ⟨xo2, xl2, xc2, rfl⟩ := hod.sl
            clear hod b8 hT hg1 hcmp hsub hyc hym hl0 hly
            go_wp2_with fail
            go_roundw
            case rel => exact ⟨_, _, HN.out⟩
            case measure => rw [HM.out]; exact HLT.out
           ·
            have hcm : ¬ (0 : Int) < cmpN X1 Y1 := by
             rcases cmpN_cases X1 Y1 with ⟨h, e⟩ | ⟨h, e⟩ | ⟨h, e⟩ <;> rw [e] <;> omega
            have hsub := sub_ref_yes _ _ _ _ w6 hT.oy.num hT.ox.num (Nat.le_trans hT.ly (by decide)) (Nat.le_trans hT.lx (by decide)) (by rw [val_lim, val_lim]; omega)
            rw [val_lim, val_lim] at hsub
            have HC : Hid (X1 ≤ Y1) := by show _ ≤ _; omega
            generalize cmpN X1 Y1 = cm at *
            clear hc
            go_wp2_with fail
            refine hcmp.mono ?_
            rintro e w7 ⟨rfl, rfl⟩
            go_wp2_with fail
            refine hsub.mono ?_
            rintro e w8 ⟨d, rfl, hod, b8⟩
            have HN : Hid (Two w.heap.size w w8 (.slice xo1 xl1 xc1) d X1 (Y1 - X1) ∧ X1 ≠ 0 ∧ Nat.gcd X1 (Y1 - X1) = G') :=
             ⟨⟨hT.ox.below b8, hod.mono hT.bel.size, hT.lx, lim_diff hT.ly, bstep hT.bel b8⟩, HX1.out.1, by rw [gcd_less HC.out]; exact hg1⟩
            have HLT : Hid (valAt w8 (.slice xo1 xl1 xc1) + valAt w8 d < X + Y) := by
             show _ < _
             rw [valAt_eq HN.out.1.ox.num, valAt_eq HN.out.1.oy.num, val_lim, val_lim]
             have := HC.out; have := HY1.out; have := HX1.out; omega
            obtain ⟨xo2, xl2, xc2, rfl⟩ := hod.sl
            clear hod b8 hT hg1 hcmp hsub hyc hym hl0 hly
            go_wp2_with fail
            go_roundw
            case rel => exact ⟨_, _, HN.out⟩
            case measure => rw [HM.out]; exact HLT.out

def dval : List Nat → Nat
 | [] => 0
 | x :: r => x + 10 * dval r
def decs (xs : List Nat) : Prop := ∀ x ∈ xs, x < 10
def ddigs : Nat → Nat → List Nat
 | 0, _ => []
 | f + 1, n => if n = 0 then [] else n % 10 :: ddigs f (n / 10)
def dec (n : Nat) : List Nat := ddigs n n

theorem ddigs_zero (f : Nat) : ddigs f 0 = [] := by cases f <;> simp [ddigs]
theorem ddigs_fuel : ∀ (f g n : Nat), n ≤ f → n ≤ g → ddigs f n = ddigs g n
 | 0, g, n, h, _ => by
  have : n = 0 := by omega
  subst this; rw [ddigs_zero, ddigs_zero]
 | f + 1, 0, n, _, h => by
  have : n = 0 := by omega
  subst this; rw [ddigs_zero, ddigs_zero]
 | f + 1, g + 1, n, h1, h2 => by
  unfold ddigs
  by_cases h : n = 0
  · rw [if_pos h, if_pos h]
  · rw [if_neg h, if_neg h, ddigs_fuel f g (n / 10) (by omega) (by omega)]
theorem dec_zero : dec 0 = [] := rfl
theorem dec_pos {n : Nat} (h : n ≠ 0) : dec n = n % 10 :: dec (n / 10) := by
 obtain ⟨m, rfl⟩ : ∃ m, n = m + 1 := ⟨n - 1, by omega⟩
 conv => lhs; unfold dec ddigs
 rw [if_neg h]
 congr 1
 exact ddigs_fuel _ _ _ (by omega) (Nat.le_refl _)
theorem dec_step (n : Nat) : dval (dec n) = n ∧ decs (dec n) := by
 induction n using Nat.strongRecOn with
 | ind n ih =>
  by_cases h : n = 0
  · subst h; exact ⟨rfl, fun x hx => by simp [dec_zero] at hx⟩
  ·
   rw [dec_pos h]
   have := ih (n / 10) (by omega)
   refine ⟨by simp only [dval]; rw [this.1]; omega, fun x hx => ?_⟩
   rcases List.mem_cons.1 hx with rfl | h1
   · omega
   · exact this.2 x h1
theorem dval_dec (n : Nat) : dval (dec n) = n := (dec_step n).1
theorem dec_ne {n : Nat} (h : n ≠ 0) : dec n ≠ [] := by rw [dec_pos h]; simp
theorem dval_append (a b : List Nat) : dval (a ++ b) = dval a + 10 ^ a.length * dval b := by
 induction a with
 | nil => simp [dval]
 | cons x r ih =>
  simp only [List.cons_append, dval, List.length_cons, ih, Nat.mul_add, ← Nat.mul_assoc, Nat.pow_succ]
  rw [Nat.mul_comm 10 (10 ^ r.length)]
  omega
theorem decs_cons {x : Nat} {r : List Nat} : decs (x :: r) ↔ x < 10 ∧ decs r := by
 constructor
 · intro h; exact ⟨h x (by simp), fun y hy => h y (by simp [hy])⟩
 ·
  rintro ⟨h1, h2⟩ y hy
  rcases List.mem_cons.1 hy with rfl | h
  · exact h1
  · exact h2 y h
theorem decs_append {a b : List Nat} (ha : decs a) (hb : decs b) : decs (a ++ b) := fun x hx => by
 rcases List.mem_append.1 hx with h | h
 · exact ha x h
 · exact hb x h
theorem decs_rev {a : List Nat} (ha : decs a) : decs a.reverse := fun x hx => ha x (List.mem_reverse.1 hx)
theorem decs_take {a : List Nat} (ha : decs a) (k : Nat) : decs (a.take k) := fun x hx => ha x (List.mem_of_mem_take hx)
theorem decs_drop {a : List Nat} (ha : decs a) (k : Nat) : decs (a.drop k) := fun x hx => ha x (List.mem_of_mem_drop hx)
theorem dval_lt {xs : List Nat} (h : decs xs) : dval xs < 10 ^ xs.length := by
 induction xs with
 | nil => simp [dval]
 | cons x r ih =>
  have hx := decs_cons.1 h
  have := ih hx.2
  simp only [dval, List.length_cons, Nat.pow_succ]
  omega
theorem dval_zeros : ∀ {xs : List Nat}, (∀ x ∈ xs, x = 0) → dval xs = 0
 | [], _ => rfl
 | x :: r, h => by
  simp only [dval]
  rw [dval_zeros (xs := r) (fun y hy => h y (by simp [hy])), h x (by simp)]
theorem dec_last : ∀ {xs : List Nat}, decs xs → (∀ h : xs ≠ [], xs.getLast h ≠ 0) → dec (dval xs) = xs
 | [], _, _ => rfl
 | [x], hb, hl => by
  have hx := (decs_cons.1 hb).1
  have h0 : x ≠ 0 := by have := hl (by simp); simpa using this
  simp only [dval, Nat.mul_zero, Nat.add_zero]
  rw [dec_pos h0, Nat.mod_eq_of_lt hx, Nat.div_eq_of_lt hx, dec_zero]
 | x :: y :: r, hb, hl => by
  have hx := decs_cons.1 hb
  have ih := dec_last (xs := y :: r) hx.2 (fun _ => by have := hl (by simp); simpa using this)
  have hp : dval (y :: r) ≠ 0 := by
   intro h0
   rw [h0, dec_zero] at ih
   simp at ih
  have h1 : x + 10 * dval (y :: r) ≠ 0 := by omega
  show dec (x + 10 * dval (y :: r)) = _
  rw [dec_pos h1, show (x + 10 * dval (y :: r)) % 10 = x by omega, show (x + 10 * dval (y :: r)) / 10 = dval (y :: r) by omega, ih]
def bval (ds : List Nat) : Nat := dval ds.reverse
theorem bval_snoc (ds : List Nat) (d : Nat) : bval (ds ++ [d]) = bval ds * 10 + d := by
 simp only [bval, List.reverse_append, List.reverse_cons, List.reverse_nil, List.nil_append, List.cons_append, dval]; omega
theorem bval_append (a b : List Nat) : bval (a ++ b) = bval a * 10 ^ b.length + bval b := by
 simp only [bval, List.reverse_append, dval_append, List.length_reverse]
 rw [Nat.mul_comm]; omega
theorem bval_zeros_ahead {a b : List Nat} (h : ∀ x ∈ a, x = 0) : bval (a ++ b) = bval b := by
 rw [bval_append]
 have : bval a = 0 := dval_zeros fun x hx => h x (List.mem_reverse.1 hx)
 rw [this, Nat.zero_mul, Nat.zero_add]
theorem dec_head {ds : List Nat} (hd : decs ds) (h0 : ∀ h : ds ≠ [], ds.head h ≠ 0) : (dec (bval ds)).reverse = ds := by
 unfold bval
 rw [dec_last (decs_rev hd) (fun h => by rw [List.getLast_reverse]; exact h0 _), List.reverse_reverse]
theorem head_pos {ds : List Nat} (hd : decs ds) (h : ds ≠ []) (h0 : ds.head h ≠ 0) : bval ds ≠ 0 := by
 intro e
 have := dec_head hd (fun _ => h0)
 rw [e, dec_zero] at this
 exact h this.symm
def wri (n : Nat) : List Nat := if n = 0 then [0] else (dec n).reverse
theorem wri_ne (n : Nat) : wri n ≠ [] := by
 unfold wri
 split
 · simp
 · rename_i h; simpa using dec_ne h
theorem wri_head {n : Nat} (h : n ≠ 0) (hh : wri n ≠ []) : (wri n).head hh ≠ 0 := by
 intro e
 have hd : wri n = (dec n).reverse := by unfold wri; rw [if_neg h]
 obtain ⟨x, r, hx⟩ := List.exists_cons_of_ne_nil hh
 simp only [hx, List.head_cons] at e
 have hl : (dec n) = r.reverse ++ [0] := by
  have : (dec n).reverse.reverse = (x :: r).reverse := by rw [← hd, hx]
  rw [List.reverse_reverse, List.reverse_cons, e] at this
  exact this
 have h1 := dval_dec n
 rw [hl, dval_append] at h1
 simp only [dval, Nat.mul_zero, Nat.add_zero] at h1
 -- the digits without the last nought are the same number's
 have h2 : ∀ m : Nat, dec m ≠ [] → (dec m).getLast? ≠ some 0 := by
  intro m
  induction m using Nat.strongRecOn with
  | ind m ih =>
   intro hm
   have hm0 : m ≠ 0 := by intro h0; subst h0; exact hm rfl
   rw [dec_pos hm0]
   by_cases hq : m / 10 = 0
   · rw [hq, dec_zero]; simp; omega
   ·
    have := ih (m / 10) (by omega) (dec_ne hq)
    obtain ⟨y, t, ht⟩ := List.exists_cons_of_ne_nil (dec_ne hq)
    rw [ht] at this ⊢
    rw [List.getLast?_cons_cons]; exact this
 exact h2 n (dec_ne h) (by rw [hl]; simp)
theorem wri_drop {ds : List Nat} (hd : decs ds) {k : Nat} (hk : k < ds.length) (hz : ∀ j, j < k → ds.getD j 0 = 0) (hl : ds.getD k 0 ≠ 0 ∨ k + 1 = ds.length) : wri (bval ds) = ds.drop k := by
 have hs : ds = ds.take k ++ ds.drop k := (List.take_append_drop k ds).symm
 have hb : bval ds = bval (ds.drop k) := by
  conv => lhs; rw [hs]
  apply bval_zeros_ahead
  intro x hx
  obtain ⟨j, hj, rfl⟩ := List.getElem_of_mem hx
  simp only [List.length_take] at hj
  have := hz j (by omega)
  rw [List.getElem_take]
  rw [List.getD_eq_getElem?_getD, List.getElem?_eq_getElem (by omega)] at this
  simpa using this
 have hne : ds.drop k ≠ [] := by simp; omega
 have hhd : (ds.drop k).head hne = ds.getD k 0 := by
  rw [List.head_drop, List.getD_eq_getElem?_getD, List.getElem?_eq_getElem (by omega)]; rfl
 rw [hb]
 by_cases h0 : ds.getD k 0 = 0
 ·
  have h1 : k + 1 = ds.length := by rcases hl with h | h; exact absurd h0 h; exact h
  obtain ⟨x, r, hx⟩ := List.exists_cons_of_ne_nil hne
  have hr : r = [] := by
   have : (ds.drop k).length = 1 := by simp; omega
   rw [hx] at this
   simpa using this
  simp only [hx, List.head_cons] at hhd
  rw [hx, hr, hhd, h0]; rfl
 ·
  have h1 : bval (ds.drop k) ≠ 0 := head_pos (decs_drop hd k) hne (by rw [hhd]; exact h0)
  unfold wri
  rw [if_neg h1]
  exact dec_head (decs_drop hd k) fun _ => by rw [hhd]; exact h0
open Go.RowKit

def bt (s : ByteArray) (i : Nat) : Nat := (s.data.toList.getD i 0).toNat
theorem bt_get {s : ByteArray} {i : Nat} (h : i < s.size) : s[i].toNat = bt s i := by
 unfold bt
 rw [List.getD_eq_getElem?_getD, Array.getElem?_toList, Array.getElem?_eq_getElem h]
 rfl
theorem bt_lt (s : ByteArray) (i : Nat) : bt s i < 256 := UInt8.toNat_lt _
def dgs (s : ByteArray) : List Nat := s.data.toList.map fun b => b.toNat - 48
theorem dgs_len (s : ByteArray) : (dgs s).length = s.size := by unfold dgs; rw [List.length_map]; exact Array.length_toList
theorem dgs_at {s : ByteArray} {i : Nat} (h : i < s.size) : (dgs s).getD i 0 = bt s i - 48 := by
 unfold dgs bt
 rw [List.getD_eq_getElem?_getD, List.getElem?_map, List.getD_eq_getElem?_getD]
 have : i < s.data.toList.length := by simpa using h
 rw [List.getElem?_eq_getElem this]; rfl
def DigOk (s : ByteArray) : Prop := ∀ i, i < s.size → 48 ≤ bt s i ∧ bt s i ≤ 57
theorem DigOk.decs {s : ByteArray} (h : DigOk s) : decs (dgs s) := fun x hx => by
 obtain ⟨i, hi, rfl⟩ := List.getElem_of_mem hx
 rw [dgs_len] at hi
 have h1 := dgs_at hi
 rw [List.getD_eq_getElem?_getD, List.getElem?_eq_getElem (by rw [dgs_len]; exact hi)] at h1
 have h2 := h i hi
 simp at h1
 omega
theorem ret_bool {a b : Bool} (h : a = b) : Ending.returned (.bool a) = .returned (.bool b) := by rw [h]
instance (s : ByteArray) : Decidable (DigOk s) := inferInstanceAs (Decidable (∀ i, i < s.size → _))

theorem digitsAlone_any (s : ByteArray) (w : World) (hs : s.size ≤ 9223372036854775807) :
  Calls Tryz.prog 81 #[.string s] w fun e w' => e = .returned (.bool (decide (DigOk s ∧ 0 < s.size))) ∧ w' = w := by
 obtain ⟨n, hn⟩ : ∃ n, n = s.size := ⟨_, rfl⟩
 obtain ⟨R, hR⟩ : ∃ R, R = decide (DigOk s ∧ 0 < s.size) := ⟨_, rfl⟩
 rw [← hR]
 have HR : Hid (R = decide (DigOk s ∧ 0 < s.size)) := hR
 clear hR
 go_enter Tryz.func81, Tryz.ntmps81
 go_wp2
 go_loop [6] (fun t => ∃ i : Nat, i ≤ s.size ∧ t = .int .i64 i ∧ ∀ j, j < i → 48 ≤ bt s j ∧ bt s j ≤ 57) (fun t => s.size - (intOf t).toNat)
 case atStart => exact ⟨0, Nat.zero_le _, rfl, fun j hj => by omega⟩
 case round =>
  obtain ⟨i, hi, rfl, hd⟩ := hrel
  have HD : Hid (∀ j, j < i → 48 ≤ bt s j ∧ bt s j ≤ 57) := hd
  clear hd
  by_cases hlt : i < s.size
  ·
   have hlt' : (i : Int) < (s.size : Int) := by omega
   have hg := bt_get hlt
   have hb := bt_lt s i
   obtain ⟨c, hc⟩ : ∃ c, c = bt s i := ⟨_, rfl⟩
   rw [← hc] at hg hb
   have HC : Hid (c = bt s i) := hc
   clear hc
   by_cases h1 : c < 48
   ·
    have h1' : (c : Int) < 48 := by omega
    have HF : Hid (R = false) := by
     show _ = _
     rw [HR.out]
     refine decide_eq_false fun h => ?_
     have := h.1 i hlt
     rw [← HC.out] at this; omega
    go_wp2
    go_ret
    exact ⟨(ret_bool HF.out).symm, rfl⟩
   ·
    have h1' : ¬ (c : Int) < 48 := by omega
    by_cases h2 : 57 < c
    ·
     have h2' : (57 : Int) < (c : Int) := by omega
     have HF : Hid (R = false) := by
      show _ = _
      rw [HR.out]
      refine decide_eq_false fun h => ?_
      have := h.1 i hlt
      rw [← HC.out] at this; omega
     go_wp2
     go_ret
     exact ⟨(ret_bool HF.out).symm, rfl⟩
    ·
     have h2' : ¬ (57 : Int) < (c : Int) := by omega
     go_wp2
     go_round
     case rel =>
      refine ⟨i + 1, by omega, by go_num, fun j hj => ?_⟩
      by_cases hji : j = i
      · rw [hji, ← HC.out]; omega
      · exact HD.out j (by omega)
     case measure => simp [intOf]; omega
  ·
   have hlt' : ¬ (i : Int) < (s.size : Int) := by omega
   have hin : i = s.size := by omega
   have HF : Hid (R = decide (0 < s.size)) := by
    show _ = _
    rw [HR.out]
    by_cases h0 : 0 < s.size
    ·
     rw [decide_eq_true h0]
     exact decide_eq_true ⟨fun j hj => HD.out j (by omega), h0⟩
    ·
     rw [decide_eq_false h0]
     exact decide_eq_false fun h => h0 h.2
   go_wp2
   go_ret
   exact ⟨(ret_bool HF.out).symm, rfl⟩
open Go.RowKit

theorem dig_step {xs ys : List Nat} {i sc c c0 : Nat} (hi : i < ys.length) (h : low ys i + 4294967296 ^ i * c = low xs i * sc + c0) :
  low (ys.set i ((c + xs.getD i 0 * sc) % 4294967296)) (i + 1) + 4294967296 ^ (i + 1) * ((c + xs.getD i 0 * sc) / 4294967296) = low xs (i + 1) * sc + c0 := by
 rw [low_set_succ _ _ _ hi, low_succ xs i, Nat.pow_succ, Nat.add_assoc, carry_eq, Nat.mul_add, Nat.add_mul, Nat.mul_assoc]
 omega
theorem take_snoc {l : List Nat} {i : Nat} (h : i < l.length) : l.take (i + 1) = l.take i ++ [l.getD i 0] := by
 rw [List.take_add_one, List.getD_eq_getElem?_getD, List.getElem?_eq_getElem h]; rfl
theorem ten_le {i n : Nat} (h : i ≤ n) : 10 ^ i ≤ 10 ^ n := Nat.pow_le_pow_right (by decide) h

def DigEnd (B : Nat) (w : World) (v : Nat) (s : ByteArray) (e : Ending) (w' : World) : Prop :=
 ∃ u, e = .returned u ∧ Own B 37 w' u (lim (v * 10 ^ s.size + bval (dgs s))) ∧ Below B w w'
theorem appendDigits_any (B v : Nat) (u : Value) (s : ByteArray) (w : World) (h : Own B 37 w u (lim v)) (hB : B ≤ w.heap.size) (hl : (lim v).length ≤ 1000000) (hs : s.size ≤ 9) (hd : DigOk s) :
  Calls Tryz.prog 82 #[u, .string s] w fun e w' => DigEnd B w v s e w' := by
 obtain ⟨iU, hiU, hzU0, hzU1, hzU2⟩ := info_parts Tryz.infoU
 obtain ⟨ao, cap, rfl, hao, hlc, hcm⟩ := h.ao
 obtain ⟨n, hn⟩ : ∃ n, n = (lim v).length := ⟨_, rfl⟩
 rw [← hn] at hao hlc hl h ⊢
 have HN : Hid (n = (lim v).length) := hn
 have HDD : Hid (decs (dgs s)) := hd.decs
 clear hn
 go_enter Tryz.func82, Tryz.ntmps82
 go_wp2
 go_loop [5, 6, 12] (fun sv cv t => ∃ i sc c : Nat, i ≤ s.size ∧ t = .int .i64 i ∧ sv = .int .u64 sc ∧ cv = .int .u64 c ∧ sc = 10 ^ i ∧ c = bval ((dgs s).take i)) (fun _ _ t => s.size - (intOf t).toNat)
 case atStart => exact ⟨0, 1, 0, Nat.zero_le _, rfl, rfl, rfl, rfl, rfl⟩
 case round =>
  obtain ⟨i, sc, c, hi, rfl, rfl, rfl, hsc, hc⟩ := hrel
  have HSC : Hid (sc = 10 ^ i) := hsc
  have HC : Hid (c = bval ((dgs s).take i)) := hc
  have hcs : c < sc := by
   rw [hsc, hc]
   have h1 := dval_lt (decs_rev (decs_take HDD.out i))
   rw [List.length_reverse, List.length_take, dgs_len, Nat.min_eq_left hi] at h1
   exact h1
  clear hsc hc
  by_cases hlt : i < s.size
  ·
   have hlt' : (i : Int) < (s.size : Int) := by omega
   have hsc9 : sc ≤ 100000000 := by rw [HSC.out]; exact ten_le (n := 8) (by omega)
   have hg := bt_get hlt
   have hb := hd i hlt
   have hda := dgs_at hlt
   obtain ⟨b, hbb⟩ : ∃ b, b = bt s i := ⟨_, rfl⟩
   rw [← hbb] at hg hb hda
   have HDA : Hid ((dgs s).getD i 0 = b - 48) := hda
   have hb1 : (48 : Int) ≤ (b : Int) := by omega
   have hb2 : (b : Int) ≤ 57 := by omega
   clear hbb hda
   go_wp2
   go_round
   case rel =>
    refine ⟨i + 1, sc * 10, c * 10 + (b - 48), by omega, by go_num, by go_num, ?_, ?_, ?_⟩
    · congr 1; omega
    · rw [HSC.out, Nat.pow_succ]
    · rw [take_snoc (by rw [dgs_len]; exact hlt), bval_snoc, HDA.out, HC.out]
   case measure => simp [intOf]; omega
  ·
   have hlt' : ¬ (i : Int) < (s.size : Int) := by omega
   have hin : i = s.size := by omega
   subst hin
   have hsc9 : sc ≤ 1000000000 := by rw [HSC.out]; exact ten_le (n := 9) (by omega)
   rw [List.take_of_length_le (by rw [dgs_len]; exact Nat.le_refl _)] at HC
   have HOW : Hid (Own B 37 w (.slice ao n cap) (lim v)) := h
   clear h
   have hsc1 : 1 ≤ sc := by omega
   have HTG : Hid (v * 10 ^ s.size + bval (dgs s) = v * sc + c) := by show _ = _; rw [HSC.out, HC.out]
   clear hcs hi hlt
   have hc0 : c < sc := by
    rw [HSC.out, HC.out]
    have h1 := dval_lt (decs_rev HDD.out)
    rw [List.length_reverse, dgs_len] at h1
    exact h1
   have HC0 : Hid (c < sc) := hc0
   clear hc0
   go_wp2
   go_loopw [6, 28] (fun cv t wr => ∃ (i k : Nat) (ys : List Nat), i ≤ n ∧ t = .int .i64 i ∧ cv = .int .u64 k ∧ k < sc ∧ ys.length = n ∧ Own B 37 wr (.slice ao n cap) ys ∧ Below B w wr ∧ (∀ j, i ≤ j → ys.getD j 0 = (lim v).getD j 0) ∧ low ys i + 4294967296 ^ i * k = low (lim v) i * sc + c) (fun _ t _ => n - (intOf t).toNat)
   case atStart => exact ⟨0, c, lim v, Nat.zero_le _, rfl, rfl, HC0.out, HN.out.symm, HOW.out, Below.refl _ _, fun _ _ => rfl, by simp [low_zero]⟩
   case round =>
    clear HOW HC0
    obtain ⟨i, k, ys, hin, rfl, rfl, hk, hyl, how, hbel, hsame, hinv⟩ := hrel
    have HY : Hid (ys.length = n) := hyl
    have HS : Hid (∀ j, i ≤ j → ys.getD j 0 = (lim v).getD j 0) := hsame
    have HI : Hid (low ys i + 4294967296 ^ i * k = low (lim v) i * sc + c) := hinv
    clear hyl hsame hinv
    by_cases hlt : i < n
    ·
     have hlt' : (i : Int) < (n : Int) := by omega
     obtain ⟨g, rfl⟩ := hao (by omega)
     obtain ⟨cz, hfz⟩ := how.cell (k := i) (by rw [HY.out]; exact hlt)
     rw [HS.out i (Nat.le_refl _)] at cz
     have hx0 := limb_lt (limbs_lim v) i
     obtain ⟨x, hx⟩ : ∃ x, x = (lim v).getD i 0 := ⟨_, rfl⟩
     rw [← hx] at cz hx0
     have HX : Hid (x = (lim v).getD i 0) := hx
     have hxs : x * sc + sc ≤ 4294967296 * sc := by
      have := Nat.mul_le_mul_right sc (show x + 1 ≤ 4294967296 by omega)
      rw [Nat.add_mul, Nat.one_mul] at this; exact this
     obtain ⟨t, ht⟩ : ∃ t, t = x * sc := ⟨_, rfl⟩
     rw [← ht] at hxs
     have et : (x : Int) * (sc : Int) = (t : Int) := by rw [ht]; exact (Int.natCast_mul x sc).symm
     have HT : Hid (t = x * sc) := ht
     have htb : t ≤ 4294967296000000000 := by omega
     have hk2 : (k + t) / 4294967296 < sc := by omega
     have hset := how.set HY.out i ((k + t) % 4294967296) (by omega)
     have hbel2 := hbel.setCell (p := ⟨g, i, none⟩) (by exact how.heap.1) (U ((k + t) % 4294967296))
     rw [show U ((k + t) % 4294967296) = .int .u32 (((k : Int) + (t : Int)) % 4294967296) by simp [U]] at hset hbel2
     clear hx ht how hbel hxs
     go_wp2
     go_roundw
     case rel =>
      refine ⟨i + 1, (k + t) / 4294967296, _, by omega, by go_num, by go_num, hk2, by rw [List.length_set]; exact HY.out, hset, hbel2, fun j hj => ?_, ?_⟩
      · rw [getD_set_off _ _ _ _ (by omega)]; exact HS.out j (by omega)
      · rw [HT.out, HX.out]; exact dig_step (by rw [HY.out]; exact hlt) HI.out
     case measure => simp [intOf]; omega
    ·
     have hlt' : ¬ (i : Int) < (n : Int) := by omega
     have hin2 : i = n := by omega
     subst hin2
     have hI := HI.out
     rw [low_all (xs := lim v) (by rw [← HN.out]; exact Nat.le_refl _), low_all (xs := ys) (by rw [HY.out]; exact Nat.le_refl _), val_lim] at hI
     have HI2 : Hid (val ys + 4294967296 ^ i * k = v * sc + c) := hI
     clear hI HI
     by_cases hk0 : k = 0
     ·
      subst hk0
      have HE : Hid (DigEnd B w v s (.returned (.slice ao i cap)) wr) := by
       refine ⟨_, rfl, ?_, hbel⟩
       have h1 := HI2.out
       rw [Nat.mul_zero, Nat.add_zero] at h1
       rw [HTG.out, ← h1]
       have h2 : lim (val ys) = ys := by
        rcases Nat.eq_zero_or_pos i with h0 | h0
        ·
         have : ys = [] := List.eq_nil_of_length_eq_zero (by rw [HY.out, h0])
         rw [this]; rfl
        ·
         obtain ⟨m, rfl⟩ : ∃ m, i = m + 1 := ⟨i - 1, by omega⟩
         refine lim_of_ge how.1 HY.out ?_
         have h3 := lim_ge HN.out.symm
         have h4 := Nat.le_mul_of_pos_right v (show 0 < sc by omega)
         omega
       rw [h2]; exact how
      clear how hbel hao
      go_wp2
      go_ret
      exact HE.out
     ·
      have hk0' : ¬ (k : Int) = 0 := by omega
      have hk32 : k < 4294967296 := by omega
      have hbw : B ≤ wr.heap.size := Nat.le_trans hB hbel.size
      have HO : Hid (wr.ownsRow B 37 1 (.slice ao i cap) i (ys.map U)) := by have := how.2; rw [HY.out] at this; exact this
      have hB3 : B ≤ (wr.alloc (.cells #[.int .u32 (k : Int)] 37)).heap.size := by simp; omega
      go_wp2_with (at_builtin; refine wpList_push _ rfl _ _ 23 rfl B 37 iU (.int .u32 0) 4 Tryz.underlying23 hiU hzU0 hzU1 hzU2 rfl _ i (ys.map U) rfl (HO.out.alloc _) ⟨wr.heap.size, 0, none⟩ 1 1 [.int .u32 (k : Int)] rfl rfl (cell_one_new _ _ _) (fun u hu => by simp at hu; subst hu; rfl) (by decide) (by unfold maxLen; omega) (by omega) hB3 ?_)
      intro v' w5 ho hgr _ _
      have R := push_own (d := k) how hbel hbw hk32 (by rw [HY.out, show U k = .int .u32 (k : Int) from rfl]; exact ho) hgr
      have HE : Hid (DigEnd B w v s (.returned v') w5) := by
       refine ⟨_, rfl, ?_, R.2.1⟩
       rw [HTG.out, ← HI2.out]
       have h2 := lim_snoc how.1 hk32 hk0
       rw [HY.out] at h2
       rw [h2]; exact R.1
      clear ho hgr how hbel HO hB3 R hao
      go_wp2
      go_ret
      exact HE.out
open Go.RowKit

def szOf : Value → Nat
 | .string r => r.size
 | _ => 0
def ParseEnd (w : World) (s : ByteArray) (e : Ending) (w' : World) : Prop :=
 ∃ u, e = .returned (.tuple #[u, .int .i64 (if DigOk s ∧ 0 < s.size then 0 else 10)]) ∧ Own w.heap.size 37 w' u (if DigOk s ∧ 0 < s.size then lim (bval (dgs s)) else []) ∧ Below w.heap.size w w'
theorem extract_list (r : ByteArray) (a b : Nat) : (r.extract a b).data.toList = (r.data.toList.drop a).take (b - a) := by
 rw [ByteArray.data_extract, Array.toList_extract]
theorem dgs_part {s c : ByteArray} {k m : Nat} (h : c.data.toList = (s.data.toList.drop k).take m) : dgs c = ((dgs s).drop k).take m := by
 unfold dgs; rw [h, List.map_take, List.map_drop]
theorem size_part {s c : ByteArray} {k m : Nat} (h : c.data.toList = (s.data.toList.drop k).take m) : c.size = min m (s.size - k) := by
 have : c.data.toList.length = min m (s.size - k) := by rw [h, List.length_take, List.length_drop, Array.length_toList]; rfl
 rw [Array.length_toList] at this; exact this
theorem bt_part {s c : ByteArray} {k m i : Nat} (h : c.data.toList = (s.data.toList.drop k).take m) (hi : i < m) : bt c i = bt s (k + i) := by
 unfold bt
 rw [h, List.getD_eq_getElem?_getD, List.getElem?_take_of_lt hi, List.getElem?_drop, ← List.getD_eq_getElem?_getD]
theorem DigOk.part {s c : ByteArray} {k m : Nat} (hd : DigOk s) (h : c.data.toList = (s.data.toList.drop k).take m) : DigOk c := fun i hi => by
 have hs := size_part h
 rw [bt_part h (by omega)]
 exact hd _ (by omega)
theorem bval_chunk {s c : ByteArray} {k m : Nat} (h : c.data.toList = (s.data.toList.drop k).take m) : bval ((dgs s).take (k + m)) = bval ((dgs s).take k) * 10 ^ c.size + bval (dgs c) := by
 rw [List.take_add, bval_append, ← dgs_part h, dgs_len]
theorem parse_any (s : ByteArray) (w : World) (hs : s.size ≤ 1000000) :
  Calls Tryz.prog 49 #[.string s] w fun e w' => ParseEnd w s e w' := by
 go_enter Tryz.func49, Tryz.ntmps49
 go_wp2_with fail
 refine (digitsAlone_any _ _ (by omega)).mono ?_
 rintro e w1 ⟨rfl, rfl⟩
 by_cases hd : DigOk s ∧ 0 < s.size
 ·
  rw [decide_eq_true hd]
  have HD : Hid (DigOk s) := hd.1
  have HDD : Hid (DigOk s ∧ 0 < s.size) := hd
  clear hd
  go_wp2_with fail
  go_loopw [0, 4] (fun sv t wr => ∃ (k : Nat) (r : ByteArray), k ≤ s.size ∧ sv = .string r ∧ r.data.toList = s.data.toList.drop k ∧ Own w1.heap.size 37 wr t (lim (bval ((dgs s).take k))) ∧ Below w1.heap.size w1 wr) (fun sv _ _ => szOf sv)
  case atStart => exact ⟨0, s, Nat.zero_le _, rfl, rfl, Own.of_nil _ _ _, Below.refl _ _⟩
  case round =>
   obtain ⟨k, r, hk, rfl, hr, how, hbel⟩ := hrel
   have HRR : Hid (r.data.toList = s.data.toList.drop k) := hr
   clear hr
   have hrs : r.size = s.size - k := by
    have h1 : r.data.toList.length = s.size - k := by rw [HRR.out, List.length_drop, Array.length_toList]; rfl
    rw [Array.length_toList] at h1; exact h1
   have HRS : Hid (r.size = s.size - k) := hrs
   have hll : (lim (bval ((dgs s).take k))).length ≤ 1000000 := by
    have h2 : (lim (bval ((dgs s).take k))).length ≤ k := by
     apply lim_len_le
     have h1 := dval_lt (decs_rev (decs_take HD.out.decs k))
     rw [List.length_reverse, List.length_take, dgs_len, Nat.min_eq_left hk] at h1
     exact Nat.lt_of_lt_of_le h1 (Nat.pow_le_pow_left (by decide : 10 ≤ 4294967296) k)
    omega
   have hbw : w1.heap.size ≤ wr.heap.size := hbel.size
   clear hrs
   by_cases hlt : 0 < r.size
   ·
    have hlt' : (0 : Int) < (r.size : Int) := by omega
    by_cases h9 : r.size ≤ 9
    ·
     have h9' : (r.size : Int) ≤ 9 := by omega
     have hc : r.data.toList = (s.data.toList.drop k).take r.size := by
      rw [← HRR.out, List.take_of_length_le (by rw [Array.length_toList]; exact Nat.le_refl _)]
     have HBV : Hid (bval ((dgs s).take (k + r.size)) = bval ((dgs s).take k) * 10 ^ r.size + bval (dgs r)) := bval_chunk hc
     have HDR : Hid (DigOk r) := HD.out.part hc
     clear hc
     go_wp2_with fail
     refine (appendDigits_any w1.heap.size _ _ r wr how hbw hll h9 HDR.out).mono ?_
     rintro e w2 ⟨u, rfl, hou, hb2⟩
     rw [← HBV.out] at hou
     have hbel2 := hbel.trans hb2
     clear how hbel hb2 HBV
     go_wp2_with fail
     go_roundw
     case rel =>
      have hrs := HRS.out
      refine ⟨k + r.size, _, by omega, rfl, ?_, hou, hbel2⟩
      rw [List.drop_of_length_le (by rw [Array.length_toList]; show s.size ≤ _; omega)]; rfl
     case measure => simp [szOf]; omega
    ·
     have h9' : ¬ (r.size : Int) ≤ 9 := by omega
     have h9'' : (9 : Int) ≤ (r.size : Int) := by omega
     have h9n : 9 ≤ r.size := by omega
     have hc : (r.extract 0 9).data.toList = (s.data.toList.drop k).take 9 := by rw [extract_list, HRR.out, List.drop_zero]
     have HBV : Hid (bval ((dgs s).take (k + 9)) = bval ((dgs s).take k) * 10 ^ (r.extract 0 9).size + bval (dgs (r.extract 0 9))) := bval_chunk hc
     have HDR : Hid (DigOk (r.extract 0 9)) := HD.out.part hc
     have hsz9 : (r.extract 0 9).size ≤ 9 := by rw [size_part hc]; omega
     clear hc
     go_wp2_with fail
     refine (appendDigits_any w1.heap.size _ _ (r.extract 0 9) wr how hbw hll hsz9 HDR.out).mono ?_
     rintro e w2 ⟨u, rfl, hou, hb2⟩
     rw [← HBV.out] at hou
     have hbel2 := hbel.trans hb2
     clear how hbel hb2 HBV
     go_wp2_with fail
     go_roundw
     case rel =>
      have hrs := HRS.out
      refine ⟨k + 9, _, by omega, rfl, ?_, hou, hbel2⟩
      rw [extract_list, HRR.out, List.drop_drop, List.take_of_length_le (by rw [List.length_drop, Array.length_toList]; show s.size - (k + 9) ≤ _; omega)]
     case measure => simp [szOf]; omega
   ·
    have hlt' : ¬ (0 : Int) < (r.size : Int) := by omega
    have hks : k = s.size := by have := HRS.out; omega
    have HE : Hid (ParseEnd w1 s (.returned (.tuple #[u4, .int .i64 0])) wr) := by
     refine ⟨_, by rw [if_pos HDD.out], ?_, hbel⟩
     rw [if_pos HDD.out]
     rw [hks, List.take_of_length_le (by rw [dgs_len]; exact Nat.le_refl _)] at how
     exact how
    clear how hbel hks
    go_wp2_with fail
    go_ret2
    exact HE.out
 ·
  rw [decide_eq_false hd]
  have HE : Hid (ParseEnd w1 s (.returned (.tuple #[.slice none 0 0, .int .i64 10])) w1) := by
   refine ⟨_, by rw [if_neg hd], ?_, Below.refl _ _⟩
   rw [if_neg hd]
   exact Own.of_nil _ _ _
  go_wp2_with fail
  go_ret2
  exact HE.out
open Go.RowKit

def TrimEnd (s : ByteArray) (w : World) (e : Ending) (w' : World) : Prop :=
 ∃ (k : Nat) (r : ByteArray), e = .returned (.string r) ∧ w' = w ∧ k ≤ s.size ∧ r.data.toList = s.data.toList.drop k ∧ (∀ j, j < k → bt s j = 48) ∧ (k < s.size → bt s k ≠ 48)
theorem trimByte_any (s : ByteArray) (w : World) :
  Calls Tryz.prog 118 #[.string s, .int .u8 48] w fun e w' => TrimEnd s w e w' := by
 go_enter Tryz.func118, Tryz.ntmps118
 go_wp2
 go_loop [0] (fun sv => ∃ (k : Nat) (r : ByteArray), k ≤ s.size ∧ sv = .string r ∧ r.data.toList = s.data.toList.drop k ∧ (∀ j, j < k → bt s j = 48)) (fun sv => szOf sv)
 case atStart => exact ⟨0, s, Nat.zero_le _, rfl, rfl, fun j hj => by omega⟩
 case round =>
  obtain ⟨k, r, hk, rfl, hr, hz⟩ := hrel
  have HRR : Hid (r.data.toList = s.data.toList.drop k) := hr
  have HZ : Hid (∀ j, j < k → bt s j = 48) := hz
  have HRS : Hid (r.size = s.size - k) := by
   have h1 : r.data.toList.length = s.size - k := by rw [hr, List.length_drop, Array.length_toList]; rfl
   rw [Array.length_toList] at h1; exact h1
  clear hr hz
  by_cases hlt : 0 < r.size
  ·
   have hlt' : (0 : Int) < (r.size : Int) := by omega
   have hg := bt_get hlt
   have hbk : bt r 0 = bt s k := by
    unfold bt
    rw [HRR.out, List.getD_eq_getElem?_getD, List.getElem?_drop, Nat.add_zero, ← List.getD_eq_getElem?_getD]
   rw [hbk] at hg
   obtain ⟨c, hc⟩ : ∃ c, c = bt s k := ⟨_, rfl⟩
   rw [← hc] at hg
   have HC : Hid (c = bt s k) := hc
   clear hc hbk
   have hks : k < s.size := by have := HRS.out; omega
   by_cases h48 : c = 48
   ·
    subst h48
    go_wp2
    go_round
    case rel =>
     have hrs := HRS.out
     refine ⟨k + 1, _, by omega, rfl, ?_, fun j hj => ?_⟩
     · rw [extract_list, HRR.out, List.drop_drop, List.take_of_length_le (by rw [List.length_drop, Array.length_toList]; show s.size - (k + 1) ≤ _; omega)]
     ·
      by_cases hjk : j = k
      · rw [hjk]; exact HC.out.symm
      · exact HZ.out j (by omega)
    case measure => simp [szOf]; omega
   ·
    have h48' : ¬ (c : Int) = 48 := by omega
    have HE : Hid (TrimEnd s w (.returned (.string r)) w) := ⟨k, r, rfl, rfl, hk, HRR.out, HZ.out, fun _ => by rw [← HC.out]; exact h48⟩
    go_wp2
    go_ret
    exact HE.out
  ·
   have hlt' : ¬ (0 : Int) < (r.size : Int) := by omega
   have HE : Hid (TrimEnd s w (.returned (.string r)) w) := ⟨k, r, rfl, rfl, hk, HRR.out, HZ.out, fun h => by have := HRS.out; omega⟩
   go_wp2
   go_ret
   exact HE.out
theorem trimLeft_any (s : ByteArray) (w : World) (h0 : 0 < s.size) :
  Calls Tryz.prog 93 #[.string s, .string ⟨#[48]⟩] w fun e w' => TrimEnd s w e w' := by
 have hne : ¬ s.toList = [] := by
  intro h
  have h1 : s.toList = s.data.toList := ByteArray.toList_eq s
  rw [h1] at h
  have h2 : s.data.toList.length = 0 := by rw [h]; rfl
  rw [Array.length_toList] at h2
  have : s.size = s.data.size := rfl
  omega
 have hie : s.toList.isEmpty = false := by rw [List.isEmpty_eq_false_iff]; exact hne
 have h48 : (({ data := #[48] } : ByteArray)[0]'(by decide)).toNat = 48 := rfl
 go_enter Tryz.func93, Tryz.ntmps93
 go_wp2_with fail
 refine (trimByte_any s w).mono ?_
 rintro e w1 ⟨k, r, rfl, rfl, h1, h2, h3, h4⟩
 have HE : Hid (TrimEnd s w1 (.returned (.string r)) w1) := ⟨k, r, rfl, rfl, h1, h2, h3, h4⟩
 clear h1 h2 h3 h4
 go_wp2
 go_ret
 exact HE.out
end Go.Proofs.YtfnafgjnimfmjaaGreatDoor
