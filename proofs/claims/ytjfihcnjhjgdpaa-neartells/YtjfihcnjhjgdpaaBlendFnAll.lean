/-
  Proved here: what the plain way's Norm answers.
  Proved here: what blend answers.
-/
import Derived.Test.YtjfihcnjhjgdpaaShiftMathAll
import Derived.Laws.AppendOwnNone
namespace Go.Proofs.Ytjfihcnjhjgdpaa
open Go.RowKit

/-- What a maker of a number leaves. -/
def Made (B e : Nat) (w : World) (xs : List Nat) (en : Ending) (w' : World) : Prop := ∃ v, en = .returned v ∧ Own B e w' v xs ∧ Below B w w'

theorem own_copied {B e : Nat} {w' : World} {v : Value} {xs ys : List Nat} {n : Nat} (hy : xs.take n = ys) (hn : n ≤ xs.length) (hb : limbs xs) (h : w'.ownsRow B e 1 v n ((xs.map U).take n)) : Own B e w' v ys := by
  have hl : ys.length = n := by rw [← hy, List.length_take, Nat.min_eq_left hn]
  refine ⟨by rw [← hy]; exact limbs_take hb n, ?_⟩
  rw [hl, ← hy, List.map_take]
  exact h

set_option maxRecDepth 100000 in
set_option maxHeartbeats 800000 in
theorem norm_ref (v : Value) (xs : List Nat) (w : World) (h : Num w v xs) (hlen : xs.length ≤ 1099511627776) :
    Calls Try.prog 54 #[v] w fun e w' => Made w.heap.size 39 w (lim (val xs)) e w' := by
  obtain ⟨hb, ao, cap, rfl, hc, hm, hnil, hcell⟩ := h.open_
  clear h
  obtain ⟨n, hn⟩ : ∃ n, xs.length = n := ⟨_, rfl⟩
  rw [hn] at hc hlen ⊢
  have HN : Hid (xs.length = n) := hn
  clear hn
  obtain ⟨i0, hi, hz0, hz1, hz2⟩ := info_parts Try.infoU
  go_enter Try.func54, Try.ntmps54
  go_wp2
  go_loop [3] (fun t => ∃ k : Nat, k ≤ n ∧ t = .int .i64 k ∧ (∀ j, k ≤ j → j < n → xs.getD j 0 = 0)) (fun t => (intOf t).toNat)
  case atStart => exact ⟨n, Nat.le_refl _, rfl, fun j h1 h2 => by omega⟩
  case round =>
    obtain ⟨k, hk, rfl, hz⟩ := hrel
    have HZ : Hid (∀ j, k ≤ j → j < n → xs.getD j 0 = 0) := hz
    clear hz
    by_cases hk0 : 0 < k
    · obtain ⟨b, off, rfl, hc0⟩ := hcell (k - 1) (by rw [HN.out]; omega)
      obtain ⟨x, hx⟩ : ∃ x, x = xs.getD (k - 1) 0 := ⟨_, rfl⟩
      rw [← hx] at hc0
      have HX : Hid (x = xs.getD (k - 1) 0) := hx
      clear hx hnil
      by_cases hx0 : x = 0
      · have ht : ((x : Int) == 0) = true := by simp [hx0]
        have HX0 : Hid (x = 0) := hx0
        clear hx0 hcell
        go_wp2
        go_round
        case rel =>
          refine ⟨k - 1, by omega, by congr 1; omega, fun j h1 h2 => ?_⟩
          by_cases hj : j = k - 1
          · rw [hj, ← HX.out, HX0.out]
          · exact HZ.out j (by omega) h2
        case measure => simp [intOf]; omega
      · have ht : ((x : Int) == 0) = false := by simp [hx0]
        have HX0 : Hid (x ≠ 0) := hx0
        clear hx0
        have HF : Hid (xs.take k = lim (val xs)) := take_trim hb (by rw [HN.out]; omega) (by rw [HN.out]; exact HZ.out) (fun _ => by rw [← HX.out]; exact HX0.out)
        have HC : Hid (∀ j u, ((xs.take k).map U)[j]? = some u → w.cell? ((⟨b, off, none⟩ : Addr).add j) = some u) := by
          intro j u hj
          rw [List.getElem?_map] at hj
          obtain ⟨y, hy, rfl⟩ := Option.map_eq_some_iff.1 hj
          obtain ⟨hjk, hy⟩ := List.getElem?_eq_some_iff.1 hy
          simp only [List.length_take] at hjk
          obtain ⟨b', off', he, hc'⟩ := hcell j (by omega)
          simp only [Option.some.injEq, Addr.mk.injEq] at he
          obtain ⟨rfl, rfl, _⟩ := he
          rw [List.getElem_take] at hy
          subst hy
          rw [Addr.add_lit]
          rw [hc', List.getD_eq_getElem?_getD, List.getElem?_eq_getElem (by omega)]
          rfl
        have HL : Hid (((xs.take k).map U).length = k * 1) := by show _ = _; rw [List.length_map, List.length_take, HN.out]; omega
        have H1 : Hid (∀ u ∈ (xs.take k).map U, u.oneCell' = true) := by intro u hu; obtain ⟨y, _, rfl⟩ := List.mem_map.1 hu; rfl
        clear hcell
        go_wp2_with (at_builtin; refine wpList_append_own _ rfl _ _ 25 rfl w.heap.size 39 i0 (.int .u32 0) 1 4 Try.underlying25 hi hz0 hz1 hz2 rfl (by decide) _ _ _ rfl (World.ownsRow_nil _ _ _ _) ⟨b, off, none⟩ k cap ((xs.take k).map U) rfl HL.out HC.out H1.out (by unfold maxLen; omega) (by omega) (Nat.le_refl _) ?_)
        intro v' w1 hown hgr _
        have how := own_copied (by exact HF.out) (by rw [HN.out]; exact hk) hb hown
        have hbel := (Below.refl w.heap.size w).grown hgr (Nat.le_refl _) (by intro k hk; simp [Value.ownBlock] at hk)
        clear hown hgr HC
        go_wp2
        go_ret
        exact ⟨_, rfl, how, hbel⟩
    · have hk1 : k = 0 := by omega
      subst hk1
      have hgt : ¬ (0 : Int) < ((0 : Nat) : Int) := by omega
      have HF : Hid (xs.take 0 = lim (val xs)) := take_trim hb (by omega) (by rw [HN.out]; exact HZ.out) (fun h => by omega)
      have HO : Hid (Made w.heap.size 39 w (lim (val xs)) (.returned (.slice none 0 0)) w) := ⟨_, rfl, by rw [← HF.out]; exact Own.of_nil _ _ _, Below.refl _ _⟩
      clear hcell
      rcases ao with _ | a
      · have := hnil rfl
        subst this
        have hn0 : n = 0 := by omega
        subst hn0
        go_wp2
        go_ret
        exact HO.out
      · clear hnil
        obtain ⟨b, off, spot⟩ := a
        go_wp2
        go_ret
        exact HO.out

end Go.Proofs.Ytjfihcnjhjgdpaa

namespace Go.Proofs.Ytjfihcnjhjgdpaa
open Go.RowKit

set_option maxRecDepth 100000 in
set_option maxHeartbeats 1600000 in
theorem blend_any (a b : Value) (xs ys : List Nat) (uI vI : Int) (w : World) (ha : Num w a xs) (hb : Num w b ys) (hu0 : 0 ≤ uI) (hu1 : uI < 4294967296) (hv0 : 0 ≤ vI) (hv1 : vI < 4294967296)
    (hbx : xs.length ≤ 1099511627776) (hby : ys.length ≤ 1099511627776) (h1 : val ys * vI.toNat ≤ val xs * uI.toNat) (h2 : val xs * uI.toNat - val ys * vI.toNat < 4294967296 ^ (max xs.length ys.length)) :
    Calls Try.prog 103 #[a, .int .u64 uI, b, .int .u64 vI] w fun e w' => Made' w.heap.size w (lim (val xs * uI.toNat - val ys * vI.toNat)) e w' := by
  obtain ⟨u, rfl⟩ := Int.eq_ofNat_of_zero_le hu0
  obtain ⟨v, rfl⟩ := Int.eq_ofNat_of_zero_le hv0
  rw [Int.toNat_natCast, Int.toNat_natCast] at h1 h2 ⊢
  obtain ⟨ao, cap, rfl, hl1, hm1⟩ := ha.ao
  obtain ⟨bo, dap, rfl, hl2, hm2⟩ := hb.ao
  obtain ⟨i0, hi, hz0, hz1, hz2⟩ := info_parts Try.infoU
  obtain ⟨k, hk⟩ : ∃ k, k = xs.length := ⟨_, rfl⟩
  obtain ⟨m, hm⟩ : ∃ m, m = ys.length := ⟨_, rfl⟩
  have pre : ∃ n : Nat, n = max xs.length ys.length ∧ k ≤ n ∧ m ≤ n ∧ n ≤ 1099511627776 ∧ ((k < m ∧ n = m) ∨ (¬ k < m ∧ n = k)) := by
    by_cases h : k < m
    · exact ⟨m, by omega, by omega, by omega, by omega, Or.inl ⟨h, rfl⟩⟩
    · exact ⟨k, by omega, by omega, by omega, by omega, Or.inr ⟨h, rfl⟩⟩
  obtain ⟨n, hnm, hn1, hn2, hn3, hcase⟩ := pre
  rw [← hnm] at h2
  rw [← hk] at ha hl1 hbx ⊢
  rw [← hm] at hb hl2 hby ⊢
  have HKL : Hid (k = xs.length) := hk
  have HML : Hid (m = ys.length) := hm
  have H1 : Hid (val ys * v ≤ val xs * u) := h1
  have H2 : Hid (val xs * u - val ys * v < 4294967296 ^ n) := h2
  clear hk hm h1 h2 hnm hu0 hv0
  rcases hcase with ⟨hkm, hn⟩ | ⟨hkm, hn⟩
  all_goals
    have HNN : Hid (n = _) := hn
    clear hn
    go_enter Try.func103, Try.ntmps103
    go_wp2_with (at_make; refine wpList_make_full _ rfl _ _ 25 rfl w.heap.size 39 i0 (.int .u32 0) 1 Try.underlying25 hi hz0 hz1 _ _ _ _ n rfl rfl (by have := HNN.out; omega) (by have := HNN.out; omega) (by rw [hz2]; omega) (by unfold maxLen; omega) (Nat.le_refl _) ?_)
    intro w2 ho2 hg2
    have how := own_made ho2
    have hbel : Below w.heap.size w w2 := (Below.refl w.heap.size w).grown hg2 (Nat.le_refl _) (by intro k hk; simp at hk)
    clear ho2 hg2 HNN
    obtain ⟨g, hg⟩ : ∃ g, g = w.heap.size := ⟨_, rfl⟩
    have HB : Hid (Below w.heap.size w w2 ∧ Own w.heap.size 39 w2 (.slice (some ⟨g, 0, none⟩) n n) (List.replicate n 0)) := by rw [hg]; exact ⟨hbel, how⟩
    rw [← hg]
    clear hg hbel how
    go_wp2
    go_loopw [10, 11, 12, 23] (fun pv mv bv t wr => ∃ (i p m b : Nat) (zs : List Nat), i ≤ n ∧ t = .int .i64 i ∧ pv = .int .u64 p ∧ mv = .int .u64 m ∧ bv = .int .u64 b ∧ p < 4294967296 ∧ m < 4294967296 ∧ b ≤ 1 ∧ zs.length = n ∧ Own w.heap.size 39 wr (.slice (some ⟨g, 0, none⟩) n n) zs ∧ low xs i * u + 4294967296 ^ i * (m + b) = low ys i * v + low zs i + 4294967296 ^ i * p ∧ Below w.heap.size w wr) (fun _ _ _ t _ => n - (intOf t).toNat)
    case atStart => exact ⟨0, 0, 0, 0, List.replicate n 0, Nat.zero_le _, rfl, rfl, rfl, rfl, by omega, by omega, by omega, by simp, HB.out.2, by simp [low_zero], HB.out.1⟩
    case round =>
      obtain ⟨i, p, mm, bb, zs, hin, rfl, rfl, rfl, rfl, hp, hmm, hbb, hzl, how, hinv, hbel⟩ := hrel
      have HZ : Hid (zs.length = n) := hzl
      have HI : Hid (low xs i * u + 4294967296 ^ i * (mm + bb) = low ys i * v + low zs i + 4294967296 ^ i * p) := hinv
      clear hzl hinv HB
      have nu2 := ha.below (Nat.le_refl _) hbel
      have nv2 := hb.below (Nat.le_refl _) hbel
      by_cases hlt : i < n
      · have hlt' : (i : Int) < (n : Int) := by omega
        have hx0 := limb_lt ha.1 i
        have hy0 := limb_lt hb.1 i
        obtain ⟨x, hx⟩ : ∃ x, x = xs.getD i 0 := ⟨_, rfl⟩
        obtain ⟨y, hy⟩ : ∃ y, y = ys.getD i 0 := ⟨_, rfl⟩
        have HX : Hid (x = xs.getD i 0) := hx
        have HY : Hid (y = ys.getD i 0) := hy
        rw [← hx] at hx0
        rw [← hy] at hy0
        have tb := mul_bound hx0 (show u < 4294967296 by omega)
        have sb := mul_bound hy0 (show v < 4294967296 by omega)
        obtain ⟨t, ht⟩ : ∃ t, t = x * u := ⟨_, rfl⟩
        obtain ⟨s, hs⟩ : ∃ s, s = y * v := ⟨_, rfl⟩
        rw [← ht] at tb
        rw [← hs] at sb
        have et : (x : Int) * (u : Int) = (t : Int) := by rw [ht]; exact (Int.natCast_mul x u).symm
        have es : (y : Int) * (v : Int) = (s : Int) := by rw [hs]; exact (Int.natCast_mul y v).symm
        have HT : Hid (t = x * u) := ht
        have HS : Hid (s = y * v) := hs
        have ep := and_mask (p + t) (by omega)
        have em := and_mask (mm + s) (by omega)
        obtain ⟨PP, hPP⟩ : ∃ PP, PP = (p + t) % 4294967296 := ⟨_, rfl⟩
        obtain ⟨MM, hMM⟩ : ∃ MM, MM = (mm + s) % 4294967296 := ⟨_, rfl⟩
        rw [← hPP, Int.natCast_add] at ep
        rw [← hMM, Int.natCast_add] at em
        obtain ⟨D1, D, b', dl, e1, e2, hD, e3, e4, hb', hdl, heq⟩ := sub_wrap PP MM bb (by omega) (by omega) hbb
        have HPP : Hid (PP = (p + t) % 4294967296) := hPP
        have HMM : Hid (MM = (mm + s) % 4294967296) := hMM
        have HEQ : Hid (PP + 4294967296 * b' = MM + bb + dl) := heq
        obtain ⟨hcz, hfz⟩ := how.cell (k := i) (by rw [HZ.out]; exact hlt)
        obtain ⟨z, hz⟩ : ∃ z, z = zs.getD i 0 := ⟨_, rfl⟩
        rw [← hz] at hcz
        have hset := how.set HZ.out i dl hdl
        have hbel2 : Below w.heap.size w (wr.setCell ⟨g, i, none⟩ (U dl)) := hbel.setCell (by exact how.heap.1) _
        rw [show U dl = .int .u32 (dl : Int) from rfl] at hset hbel2
        clear hx hy hz how hbel ht hs hPP hMM heq
        go_wp2_with fail
        refine (limb_any _ _ _ _ nu2 (by omega)).mono ?_
        rintro e w3 ⟨rfl, rfl⟩
        rw [Int.toNat_natCast, ← HX.out]
        go_wp2_with fail
        refine (limb_any _ _ _ _ nv2 (by omega)).mono ?_
        rintro e w4 ⟨rfl, rfl⟩
        rw [Int.toNat_natCast, ← HY.out]
        clear nu2 nv2
        go_wp2
        go_roundw
        case rel => exact ⟨i + 1, (p + t) / 4294967296, (mm + s) / 4294967296, b', _, by omega, by go_num, by go_num, by go_num, by go_num, by omega, by omega, hb', by rw [List.length_set]; exact HZ.out, hset, by rw [HT.out, HS.out, HX.out, HY.out]; exact blend_step (by rw [HZ.out]; exact hlt) HI.out b' (by rw [← HX.out, ← HY.out, ← HT.out, ← HS.out, ← HPP.out, ← HMM.out]; exact HEQ.out), hbel2⟩
        case measure => simp [intOf]; omega
      · have hlt' : ¬ (i : Int) < (n : Int) := by omega
        have hin' : i = n := by omega
        have HV : Hid (val zs = val xs * u - val ys * v) := blend_done how.1 HZ.out (by rw [← HKL.out]; omega) (by rw [← HML.out]; omega) H1.out H2.out (by rw [← hin']; exact HI.out)
        clear hin' nu2 nv2
        go_wp2_with fail
        refine (trim_any _ _ _ how.num).mono ?_
        rintro e w3 ⟨⟨k3, hk3, hk4, rfl⟩, rfl⟩
        have how2 := how.cut hk3
        rw [hk4, HV.out] at how2
        clear how hk4
        go_wp2
        go_ret
        exact ⟨_, rfl, how2, hbel⟩
end Go.Proofs.Ytjfihcnjhjgdpaa
