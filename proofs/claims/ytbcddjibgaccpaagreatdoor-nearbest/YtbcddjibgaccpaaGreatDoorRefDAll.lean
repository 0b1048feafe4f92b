/-
  Proved here: what the plain way's Norm answers.
  Proved here: what blend answers.
  Proved here: what Sub, fresh and Norm answer.
  Proved here: what the plain way's limb, Uint, Bits, Cmp and Sub answer.
  Proved here: what the plain way's Bit answers.
  Proved here: what the plain way's Shift answers.
  Proved here: what the plain way's Of answers.
  Proved here: what the document's own functions of floats answer: Long, Short, Value, Scaled.
  Proved here: what the plain way's Cmp, Sub and Add answer.
  Proved here: what the plain way's Sub (of a smaller number), Add and Mul answer.
  Proved here: what the plain way's Mul answers.
-/
import Derived.Test.YtbcddjibgaccpaaGreatDoorMulMathAll
import Derived.Laws.AppendOwnNone
import Derived.Test.YtbcddjibgaccpaaGreatDoorUintAll
import Derived.Test.YtbcddjibgaccpaaGreatDoorNearKAll
import Derived.Test.YtbcddjibgaccpaaGreatDoorNearMathAll
import Derived.Deep.RegionHeld3
import Derived.Test.YtbcddjibgaccpaaGreatDoorFamAll
import Derived.Test.YtbcddjibgaccpaaGreatDoorNearO
import Derived.Test.YtbcddjibgaccpaaGreatDoorMul
namespace Go.Proofs.YtbcddjibgaccpaaGreatDoor
open Go.RowKit

/-- What a maker of a number leaves. -/
def Made (B e : Nat) (w : World) (xs : List Nat) (en : Ending) (w' : World) : Prop := ∃ v, en = .returned v ∧ Own B e w' v xs ∧ Below B w w'

theorem own_copied {B e : Nat} {w' : World} {v : Value} {xs ys : List Nat} {n : Nat} (hy : xs.take n = ys) (hn : n ≤ xs.length) (hb : limbs xs) (h : w'.ownsRow B e 1 v n ((xs.map U).take n)) : Own B e w' v ys := by
  have hl : ys.length = n := by rw [← hy, List.length_take, Nat.min_eq_left hn]
  refine ⟨by rw [← hy]; exact limbs_take hb n, ?_⟩
  rw [hl, ← hy, List.map_take]
  exact h

end Go.Proofs.YtbcddjibgaccpaaGreatDoor

namespace Go.Proofs.YtbcddjibgaccpaaGreatDoor
open Go.RowKit

set_option maxRecDepth 100000 in
set_option maxHeartbeats 1600000 in
theorem blend_any (a b : Value) (xs ys : List Nat) (uI vI : Int) (w : World) (ha : Num w a xs) (hb : Num w b ys) (hu0 : 0 ≤ uI) (hu1 : uI < 4294967296) (hv0 : 0 ≤ vI) (hv1 : vI < 4294967296)
    (hbx : xs.length ≤ 1099511627776) (hby : ys.length ≤ 1099511627776) (h1 : val ys * vI.toNat ≤ val xs * uI.toNat) (h2 : val xs * uI.toNat - val ys * vI.toNat < 4294967296 ^ (max xs.length ys.length)) :
    Calls Tryz.prog 89 #[a, .int .u64 uI, b, .int .u64 vI] w fun e w' => Made' w.heap.size w (lim (val xs * uI.toNat - val ys * vI.toNat)) e w' := by
  obtain ⟨u, rfl⟩ := Int.eq_ofNat_of_zero_le hu0
  obtain ⟨v, rfl⟩ := Int.eq_ofNat_of_zero_le hv0
  rw [Int.toNat_natCast, Int.toNat_natCast] at h1 h2 ⊢
  obtain ⟨ao, cap, rfl, hl1, hm1⟩ := ha.ao
  obtain ⟨bo, dap, rfl, hl2, hm2⟩ := hb.ao
  obtain ⟨i0, hi, hz0, hz1, hz2⟩ := info_parts Tryz.infoU
  obtain ⟨k, hk⟩ : ∃ k, k = xs.length := ⟨_, rfl⟩
  obtain ⟨m, hm⟩ : ∃ m, m = ys.length := ⟨_, rfl⟩
  have pre : ∃ n : Nat, n = max xs.length ys.length ∧ k ≤ n ∧ m ≤ n ∧ n ≤ 1099511627776 ∧ ((k < m ∧ n = m) ∨ (¬ k < m ∧ n = k)) := by
    by_cases h : k < m
    · exact ⟨m, by omega, by omega, by omega, by omega, Or.inl ⟨h, rfl⟩⟩
    · exact ⟨k, by omega, by omega, by omega, by omega, Or.inr ⟨h, rfl⟩⟩
  obtain ⟨n, hnm, hn1, hn2, hn3, hcase⟩ := pre
  rw [← hnm] at h2
  rw [← hk] at ha hl1 hbx ⊢
  rw [← hm] at hb hl2 hby ⊢
  have HKL : Hid (k = xs.length) := hk
  have HML : Hid (m = ys.length) := hm
  have H1 : Hid (val ys * v ≤ val xs * u) := h1
  have H2 : Hid (val xs * u - val ys * v < 4294967296 ^ n) := h2
  clear hk hm h1 h2 hnm hu0 hv0
  rcases hcase with ⟨hkm, hn⟩ | ⟨hkm, hn⟩
  all_goals
    have HNN : Hid (n = _) := hn
    clear hn
    go_enter Tryz.func89, Tryz.ntmps89
    go_wp2_with (at_make; refine wpList_make_full _ rfl _ _ 23 rfl w.heap.size 39 i0 (.int .u32 0) 1 Tryz.underlying23 hi hz0 hz1 _ _ _ _ n rfl rfl (by have := HNN.out; omega) (by have := HNN.out; omega) (by rw [hz2]; omega) (by unfold maxLen; omega) (Nat.le_refl _) ?_)
    intro w2 ho2 hg2
    have how := own_made ho2
    have hbel : Below w.heap.size w w2 := (Below.refl w.heap.size w).grown hg2 (Nat.le_refl _) (by intro k hk; simp at hk)
    clear ho2 hg2 HNN
    obtain ⟨g, hg⟩ : ∃ g, g = w.heap.size := ⟨_, rfl⟩
    have HB : Hid (Below w.heap.size w w2 ∧ Own w.heap.size 39 w2 (.slice (some ⟨g, 0, none⟩) n n) (List.replicate n 0)) := by rw [hg]; exact ⟨hbel, how⟩
    rw [← hg]
    clear hg hbel how
    go_wp2
    go_loopw [10, 11, 12, 23] (fun pv mv bv t wr => ∃ (i p m b : Nat) (zs : List Nat), i ≤ n ∧ t = .int .i64 i ∧ pv = .int .u64 p ∧ mv = .int .u64 m ∧ bv = .int .u64 b ∧ p < 4294967296 ∧ m < 4294967296 ∧ b ≤ 1 ∧ zs.length = n ∧ Own w.heap.size 39 wr (.slice (some ⟨g, 0, none⟩) n n) zs ∧ low xs i * u + 4294967296 ^ i * (m + b) = low ys i * v + low zs i + 4294967296 ^ i * p ∧ Below w.heap.size w wr) (fun _ _ _ t _ => n - (intOf t).toNat)
    case atStart => exact ⟨0, 0, 0, 0, List.replicate n 0, Nat.zero_le _, rfl, rfl, rfl, rfl, by omega, by omega, by omega, by simp, HB.out.2, by simp [low_zero], HB.out.1⟩
    case round =>
      obtain ⟨i, p, mm, bb, zs, hin, rfl, rfl, rfl, rfl, hp, hmm, hbb, hzl, how, hinv, hbel⟩ := hrel
      have HZ : Hid (zs.length = n) := hzl
      have HI : Hid (low xs i * u + 4294967296 ^ i * (mm + bb) = low ys i * v + low zs i + 4294967296 ^ i * p) := hinv
      clear hzl hinv HB
      have nu2 := ha.below (Nat.le_refl _) hbel
      have nv2 := hb.below (Nat.le_refl _) hbel
      by_cases hlt : i < n
      · have hlt' : (i : Int) < (n : Int) := by omega
        have hx0 := limb_lt ha.1 i
        have hy0 := limb_lt hb.1 i
        obtain ⟨x, hx⟩ : ∃ x, x = xs.getD i 0 := ⟨_, rfl⟩
        obtain ⟨y, hy⟩ : ∃ y, y = ys.getD i 0 := ⟨_, rfl⟩
        have HX : Hid (x = xs.getD i 0) := hx
        have HY : Hid (y = ys.getD i 0) := hy
        rw [← hx] at hx0
        rw [← hy] at hy0
        have tb := mul_bound hx0 (show u < 4294967296 by omega)
        have sb := mul_bound hy0 (show v < 4294967296 by omega)
        obtain ⟨t, ht⟩ : ∃ t, t = x * u := ⟨_, rfl⟩
        obtain ⟨s, hs⟩ : ∃ s, s = y * v := ⟨_, rfl⟩
        rw [← ht] at tb
        rw [← hs] at sb
        have et : (x : Int) * (u : Int) = (t : Int) := by rw [ht]; exact (Int.natCast_mul x u).symm
        have es : (y : Int) * (v : Int) = (s : Int) := by rw [hs]; exact (Int.natCast_mul y v).symm
        have HT : Hid (t = x * u) := ht
        have HS : Hid (s = y * v) := hs
        have ep := and_mask (p + t) (by omega)
        have em := and_mask (mm + s) (by omega)
        obtain ⟨PP, hPP⟩ : ∃ PP, PP = (p + t) % 4294967296 := ⟨_, rfl⟩
        obtain ⟨MM, hMM⟩ : ∃ MM, MM = (mm + s) % 4294967296 := ⟨_, rfl⟩
        rw [← hPP, Int.natCast_add] at ep
        rw [← hMM, Int.natCast_add] at em
        obtain ⟨D1, D, b', dl, e1, e2, hD, e3, e4, hb', hdl, heq⟩ := sub_wrap PP MM bb (by omega) (by omega) hbb
        have HPP : Hid (PP = (p + t) % 4294967296) := hPP
        have HMM : Hid (MM = (mm + s) % 4294967296) := hMM
        have HEQ : Hid (PP + 4294967296 * b' = MM + bb + dl) := heq
        obtain ⟨hcz, hfz⟩ := how.cell (k := i) (by rw [HZ.out]; exact hlt)
        obtain ⟨z, hz⟩ : ∃ z, z = zs.getD i 0 := ⟨_, rfl⟩
        rw [← hz] at hcz
        have hset := how.set HZ.out i dl hdl
        have hbel2 : Below w.heap.size w (wr.setCell ⟨g, i, none⟩ (U dl)) := hbel.setCell (by exact how.heap.1) _
        rw [show U dl = .int .u32 (dl : Int) from rfl] at hset hbel2
        clear hx hy hz how hbel ht hs hPP hMM heq
        go_wp2_with fail
        refine (limb_any _ _ _ _ nu2 (by omega)).mono ?_
        rintro e w3 ⟨rfl, rfl⟩
        rw [Int.toNat_natCast, ← HX.out]
        go_wp2_with fail
        refine (limb_any _ _ _ _ nv2 (by omega)).mono ?_
        rintro e w4 ⟨rfl, rfl⟩
        rw [Int.toNat_natCast, ← HY.out]
        clear nu2 nv2
        go_wp2
        go_roundw
        case rel => exact ⟨i + 1, (p + t) / 4294967296, (mm + s) / 4294967296, b', _, by omega, by go_num, by go_num, by go_num, by go_num, by omega, by omega, hb', by rw [List.length_set]; exact HZ.out, hset, by rw [HT.out, HS.out, HX.out, HY.out]; exact blend_step (by rw [HZ.out]; exact hlt) HI.out b' (by rw [← HX.out, ← HY.out, ← HT.out, ← HS.out, ← HPP.out, ← HMM.out]; exact HEQ.out), hbel2⟩
        case measure => simp [intOf]; omega
      · have hlt' : ¬ (i : Int) < (n : Int) := by omega
        have hin' : i = n := by omega
        have HV : Hid (val zs = val xs * u - val ys * v) := blend_done how.1 HZ.out (by rw [← HKL.out]; omega) (by rw [← HML.out]; omega) H1.out H2.out (by rw [← hin']; exact HI.out)
        clear hin' nu2 nv2
        go_wp2_with fail
        refine (trim_any _ _ _ how.num).mono ?_
        rintro e w3 ⟨⟨k3, hk3, hk4, rfl⟩, rfl⟩
        have how2 := how.cut hk3
        rw [hk4, HV.out] at how2
        clear how hk4
        go_wp2
        go_ret
        exact ⟨_, rfl, how2, hbel⟩
end Go.Proofs.YtbcddjibgaccpaaGreatDoor

namespace Go.Proofs.YtbcddjibgaccpaaGreatDoor
open Go.RowKit


/-- What Sub leaves. -/
def SubEnd (B : Nat) (w : World) (xs : List Nat) (en : Ending) (w' : World) : Prop := ∃ v, en = .returned (.tuple #[v, .bool true]) ∧ Own B 39 w' v xs ∧ Below B w w'

set_option maxRecDepth 100000 in
set_option maxHeartbeats 1600000 in
theorem sub_yes (u v : Value) (xs ys : List Nat) (w : World) (hu : Num w u xs) (hv : Num w v ys) (hbx : xs.length ≤ 1099511627776) (hby : ys.length ≤ 1099511627776) (hle : val ys ≤ val xs) :
    Calls Tryz.prog 85 #[u, v] w fun e w' => SubEnd w.heap.size w (lim (val xs - val ys)) e w' := by
  obtain ⟨ao, cap, rfl, hl1, hm1⟩ := hu.ao
  obtain ⟨bo, dap, rfl, hl2, hm2⟩ := hv.ao
  go_enter Tryz.func85, Tryz.ntmps85
  go_wp2_with fail
  refine (trim_any _ _ _ hu).mono ?_
  rintro e w1 ⟨⟨k, hk, hk2, rfl⟩, rfl⟩
  go_wp2_with fail
  refine (trim_any _ _ _ hv).mono ?_
  rintro e w1 ⟨⟨m, hm, hm3, rfl⟩, rfl⟩
  simp only [cutTo]
  have nu := hu.cut hk
  have nv := hv.cut hm
  rw [hk2] at nu
  rw [hm3] at nv
  simp only [cutTo] at nu nv
  have hlx : (lim (val xs)).length ≤ 1099511627776 := by rw [← hk2, List.length_take]; omega
  have hly : (lim (val ys)).length ≤ 1099511627776 := by rw [← hm3, List.length_take]; omega
  clear hu hv hk2 hm3 hk hm
  go_wp2_with fail
  refine (cmp_any _ _ _ _ _ nu nv).mono ?_
  rintro e w2 ⟨rfl, q, hq⟩
  have hnl : ¬ cmpN (val (lim (val xs))) (val (lim (val ys))) < 0 := by
    rw [val_lim, val_lim]
    rcases cmpN_cases (val xs) (val ys) with h | h | h <;> omega
  obtain ⟨c, hc⟩ : ∃ c, c = cmpN (val (lim (val xs))) (val (lim (val ys))) := ⟨_, rfl⟩
  rw [← hc] at hnl ⊢
  have hb2 : Below w1.heap.size w1 w2 := by rw [hq]; exact below_drewN (Below.refl _ _) q
  have hs2 : w2.heap.size = w1.heap.size := by rw [hq, heap_drewN]
  have nu2 := nu.below (Nat.le_refl _) hb2
  have nv2 := nv.below (Nat.le_refl _) hb2
  have HS : Hid (w2.heap.size = w1.heap.size) := hs2
  clear hc nu nv hq hs2
  go_wp2_with fail
  refine (blend_any _ _ _ _ 1 1 _ nu2 nv2 (by omega) (by omega) (by omega) (by omega) hlx hly ?_ ?_).mono ?_
  · rw [val_lim, val_lim]; simpa using hle
  · rw [val_lim, val_lim]
    simp only [Int.toNat_one, Nat.mul_one]
    refine Nat.lt_of_le_of_lt (Nat.sub_le _ _) (lim_lt_of_len (Nat.le_max_left _ _))
  rintro e w3 ⟨v3, rfl, ho3, hb3⟩
  rw [val_lim, val_lim] at ho3
  simp only [Int.toNat_one, Nat.mul_one] at ho3
  rw [HS.out] at ho3 hb3
  have hb4 := hb2.trans hb3
  clear hb2 hb3 nu2 nv2
  go_wp2
  go_ret2
  exact ⟨_, rfl, ho3, hb4⟩

set_option maxRecDepth 100000 in
set_option maxHeartbeats 1600000 in
theorem sub_no (u v : Value) (xs ys : List Nat) (w : World) (hu : Num w u xs) (hv : Num w v ys) (hle : val xs < val ys) :
    Calls Tryz.prog 85 #[u, v] w fun e w' => e = .returned (.tuple #[.slice none 0 0, .bool false]) ∧ ∃ q, w' = w.drewN q := by
  obtain ⟨ao, cap, rfl, hl1, hm1⟩ := hu.ao
  obtain ⟨bo, dap, rfl, hl2, hm2⟩ := hv.ao
  go_enter Tryz.func85, Tryz.ntmps85
  go_wp2_with fail
  refine (trim_any _ _ _ hu).mono ?_
  rintro e w1 ⟨⟨k, hk, hk2, rfl⟩, rfl⟩
  go_wp2_with fail
  refine (trim_any _ _ _ hv).mono ?_
  rintro e w1 ⟨⟨m, hm, hm3, rfl⟩, rfl⟩
  simp only [cutTo]
  have nu := hu.cut hk
  have nv := hv.cut hm
  rw [hk2] at nu
  rw [hm3] at nv
  simp only [cutTo] at nu nv
  clear hu hv hk2 hm3 hk hm
  go_wp2_with fail
  refine (cmp_any _ _ _ _ _ nu nv).mono ?_
  rintro e w2 ⟨rfl, q, hq⟩
  have HQ : Hid (w2 = w1.drewN q) := hq
  have hc : cmpN (val (lim (val xs))) (val (lim (val ys))) = -1 := by rw [val_lim, val_lim]; exact cmpN_lt hle
  rw [hc]
  clear hc nu nv hq
  go_wp2
  go_ret2
  exact ⟨rfl, q, HQ.out⟩

end Go.Proofs.YtbcddjibgaccpaaGreatDoor

namespace Go.Proofs.YtbcddjibgaccpaaGreatDoor
open Go.RowKit

/-- What a teller that makes memory leaves. -/
def Told (B : Nat) (w : World) (v : Value) (en : Ending) (w' : World) : Prop := en = .returned v ∧ Below B w w'


end Go.Proofs.YtbcddjibgaccpaaGreatDoor

namespace Go.Proofs.YtbcddjibgaccpaaGreatDoor
open Go.RowKit

end Go.Proofs.YtbcddjibgaccpaaGreatDoor

namespace Go.Proofs.YtbcddjibgaccpaaGreatDoor
open Go.RowKit

theorem bl_lt (v : Nat) : v < 2 ^ bl v := by
  by_cases h : v = 0
  · subst h; decide
  · obtain ⟨m, e, _, h2⟩ := bl_bounds h
    rw [e]; exact h2
theorem shl_zero {v : Nat} {n : Int} (h : (bl v : Int) + n ≤ 0) : shl v n = 0 := by
  have hv := bl_lt v
  unfold shl
  by_cases h0 : 0 ≤ n
  · have hb : bl v = 0 := by omega
    rw [hb] at hv
    have : v = 0 := by simpa using hv
    rw [if_pos h0, this, Nat.zero_mul]
  · rw [if_neg h0]
    exact Nat.div_eq_of_lt (Nat.lt_of_lt_of_le hv (Nat.pow_le_pow_right (by decide) (by omega)))
theorem shl_lt {v : Nat} {n : Int} {s : Nat} (h : (bl v : Int) + n = (s : Int)) : shl v n < 2 ^ s := by
  have hv := bl_lt v
  unfold shl
  by_cases h0 : 0 ≤ n
  · rw [if_pos h0, show s = bl v + n.toNat by omega, Nat.pow_add]
    exact Nat.mul_lt_mul_of_pos_right hv (Nat.two_pow_pos _)
  · rw [if_neg h0]
    apply Nat.div_lt_of_lt_mul
    rw [← Nat.pow_add, show (-n).toNat + s = bl v by omega]
    exact hv

end Go.Proofs.YtbcddjibgaccpaaGreatDoor

namespace Go.Proofs.YtbcddjibgaccpaaGreatDoor
open Go.RowKit

end Go.Proofs.YtbcddjibgaccpaaGreatDoor

namespace Go.Proofs.YtbcddjibgaccpaaGreatDoor
open Go.RowKit

end Go.Proofs.YtbcddjibgaccpaaGreatDoor

namespace Go.Proofs.YtbcddjibgaccpaaGreatDoor
open Go.RowKit

theorem low_mod {ys : List Nat} (h : limbs ys) (n : Nat) : low ys n = val ys % 4294967296 ^ n := by
  have h1 := low_lt h n
  rcases Nat.lt_or_ge n ys.length with hn | hn
  · conv => rhs; rw [val_split ys n (by omega), Nat.add_mul_mod_self_left, Nat.mod_eq_of_lt h1]
  · rw [low_all hn] at h1 ⊢
    rw [Nat.mod_eq_of_lt h1]

theorem sub_done {xs ys zs : List Nat} {b : Nat} (hx : limbs xs) (hy : limbs ys) (hz : limbs zs) (hzl : zs.length = xs.length) (hle : val ys ≤ val xs) (h : low xs xs.length + 4294967296 ^ xs.length * b = low ys xs.length + val zs) : val zs = val xs - val ys := by
  have h1 := val_lt hx
  have h2 := val_lt hz
  rw [low_all (Nat.le_refl _), low_mod hy, Nat.mod_eq_of_lt (by omega)] at h
  rw [hzl] at h2
  rcases Nat.eq_zero_or_pos b with hb | hb
  · subst hb; omega
  · have := Nat.mul_le_mul_left (4294967296 ^ xs.length) hb
    omega
theorem sub_step {xs ys zs : List Nat} {i b b' d : Nat} (hzl : zs.length = i) (h : low xs i + 4294967296 ^ i * b = low ys i + val zs) (hd : xs.getD i 0 + 4294967296 * b' = ys.getD i 0 + b + d) :
    low xs (i + 1) + 4294967296 ^ (i + 1) * b' = low ys (i + 1) + val (zs ++ [d]) := by
  rw [val_snoc, low_succ, low_succ, hzl, Nat.pow_succ]
  have e : 4294967296 ^ i * (xs.getD i 0 + 4294967296 * b') = 4294967296 ^ i * (ys.getD i 0 + b + d) := by rw [hd]
  rw [Nat.mul_add, Nat.mul_add, Nat.mul_add, ← Nat.mul_assoc] at e
  omega
theorem add_push {xs ys zs : List Nat} {i c : Nat} (hzl : zs.length = i) (h : val zs + 4294967296 ^ i * c = low xs i + low ys i) :
    val (zs ++ [(c + xs.getD i 0 + ys.getD i 0) % 4294967296]) + 4294967296 ^ (i + 1) * ((c + xs.getD i 0 + ys.getD i 0) / 4294967296) = low xs (i + 1) + low ys (i + 1) := by
  rw [val_snoc, low_succ, low_succ, Nat.pow_succ, hzl]
  have := carry_eq (4294967296 ^ i) (c + xs.getD i 0 + ys.getD i 0)
  rw [Nat.mul_add, Nat.mul_add] at this
  omega


end Go.Proofs.YtbcddjibgaccpaaGreatDoor

namespace Go.Proofs.YtbcddjibgaccpaaGreatDoor
open Go.RowKit

theorem add_end {xs ys zs : List Nat} {i : Nat} (hi : xs.length ≤ i) (hj : ys.length ≤ i) (h : val zs + 4294967296 ^ i * 0 = low xs i + low ys i) : val zs = val xs + val ys := by
  rw [low_all hi, low_all hj] at h; omega

end Go.Proofs.YtbcddjibgaccpaaGreatDoor

namespace Go.Proofs.YtbcddjibgaccpaaGreatDoor
open Go.RowKit

theorem Cells.same {g : Nat} {w w' : World} {zs : List Nat} (h : Cells w g zs) (e : w'.heap = w.heap) : Cells w' g zs := ⟨h.1, by rw [e]; exact h.2⟩

end Go.Proofs.YtbcddjibgaccpaaGreatDoor
