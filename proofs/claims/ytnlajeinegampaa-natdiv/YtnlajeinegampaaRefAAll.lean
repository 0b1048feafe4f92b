/-
  Proved here: what Sub, fresh and Norm answer.
  Proved here: what the plain way's limb, Uint, Bits, Cmp and Sub answer.
-/
import Derived.Test.YtnlajeinegampaaBlendFn
import Derived.Test.YtnlajeinegampaaFresh
import Derived.Test.YtnlajeinegampaaBitsAll
import Derived.Test.YtnlajeinegampaaNormAll
namespace Go.Proofs.Ytnlajeinegampaa
open Go.RowKit


/-- What Sub leaves. -/
def SubEnd (B : Nat) (w : World) (xs : List Nat) (en : Ending) (w' : World) : Prop := ∃ v, en = .returned (.tuple #[v, .bool true]) ∧ Own B 40 w' v xs ∧ Below B w w'

set_option maxRecDepth 100000 in
set_option maxHeartbeats 1600000 in
theorem sub_yes (u v : Value) (xs ys : List Nat) (w : World) (hu : Num w u xs) (hv : Num w v ys) (hbx : xs.length ≤ 1099511627776) (hby : ys.length ≤ 1099511627776) (hle : val ys ≤ val xs) :
    Calls Try.prog 115 #[u, v] w fun e w' => SubEnd w.heap.size w (lim (val xs - val ys)) e w' := by
  obtain ⟨ao, cap, rfl, hl1, hm1⟩ := hu.ao
  obtain ⟨bo, dap, rfl, hl2, hm2⟩ := hv.ao
  go_enter Try.func115, Try.ntmps115
  go_wp2_with fail
  refine (trim_any _ _ _ hu).mono ?_
  rintro e w1 ⟨⟨k, hk, hk2, rfl⟩, rfl⟩
  go_wp2_with fail
  refine (trim_any _ _ _ hv).mono ?_
  rintro e w1 ⟨⟨m, hm, hm3, rfl⟩, rfl⟩
  simp only [cutTo]
  have nu := hu.cut hk
  have nv := hv.cut hm
  rw [hk2] at nu
  rw [hm3] at nv
  simp only [cutTo] at nu nv
  have hlx : (lim (val xs)).length ≤ 1099511627776 := by rw [← hk2, List.length_take]; omega
  have hly : (lim (val ys)).length ≤ 1099511627776 := by rw [← hm3, List.length_take]; omega
  clear hu hv hk2 hm3 hk hm
  go_wp2_with fail
  refine (cmp_any _ _ _ _ _ nu nv).mono ?_
  rintro e w2 ⟨rfl, q, hq⟩
  have hnl : ¬ cmpN (val (lim (val xs))) (val (lim (val ys))) < 0 := by
    rw [val_lim, val_lim]
    rcases cmpN_cases (val xs) (val ys) with h | h | h <;> omega
  obtain ⟨c, hc⟩ : ∃ c, c = cmpN (val (lim (val xs))) (val (lim (val ys))) := ⟨_, rfl⟩
  rw [← hc] at hnl ⊢
  have hb2 : Below w1.heap.size w1 w2 := by rw [hq]; exact below_drewN (Below.refl _ _) q
  have hs2 : w2.heap.size = w1.heap.size := by rw [hq, heap_drewN]
  have nu2 := nu.below (Nat.le_refl _) hb2
  have nv2 := nv.below (Nat.le_refl _) hb2
  have HS : Hid (w2.heap.size = w1.heap.size) := hs2
  clear hc nu nv hq hs2
  go_wp2_with fail
  refine (blend_any _ _ _ _ 1 1 _ nu2 nv2 (by omega) (by omega) (by omega) (by omega) hlx hly ?_ ?_).mono ?_
  · rw [val_lim, val_lim]; simpa using hle
  · rw [val_lim, val_lim]
    simp only [Int.toNat_one, Nat.mul_one]
    refine Nat.lt_of_le_of_lt (Nat.sub_le _ _) (lim_lt_of_len (Nat.le_max_left _ _))
  rintro e w3 ⟨v3, rfl, ho3, hb3⟩
  rw [val_lim, val_lim] at ho3
  simp only [Int.toNat_one, Nat.mul_one] at ho3
  rw [HS.out] at ho3 hb3
  have hb4 := hb2.trans hb3
  clear hb2 hb3 nu2 nv2
  go_wp2
  go_ret2
  exact ⟨_, rfl, ho3, hb4⟩

set_option maxRecDepth 100000 in
set_option maxHeartbeats 1600000 in
theorem sub_no (u v : Value) (xs ys : List Nat) (w : World) (hu : Num w u xs) (hv : Num w v ys) (hle : val xs < val ys) :
    Calls Try.prog 115 #[u, v] w fun e w' => e = .returned (.tuple #[.slice none 0 0, .bool false]) ∧ ∃ q, w' = w.drewN q := by
  obtain ⟨ao, cap, rfl, hl1, hm1⟩ := hu.ao
  obtain ⟨bo, dap, rfl, hl2, hm2⟩ := hv.ao
  go_enter Try.func115, Try.ntmps115
  go_wp2_with fail
  refine (trim_any _ _ _ hu).mono ?_
  rintro e w1 ⟨⟨k, hk, hk2, rfl⟩, rfl⟩
  go_wp2_with fail
  refine (trim_any _ _ _ hv).mono ?_
  rintro e w1 ⟨⟨m, hm, hm3, rfl⟩, rfl⟩
  simp only [cutTo]
  have nu := hu.cut hk
  have nv := hv.cut hm
  rw [hk2] at nu
  rw [hm3] at nv
  simp only [cutTo] at nu nv
  clear hu hv hk2 hm3 hk hm
  go_wp2_with fail
  refine (cmp_any _ _ _ _ _ nu nv).mono ?_
  rintro e w2 ⟨rfl, q, hq⟩
  have HQ : Hid (w2 = w1.drewN q) := hq
  have hc : cmpN (val (lim (val xs))) (val (lim (val ys))) = -1 := by rw [val_lim, val_lim]; exact cmpN_lt hle
  rw [hc]
  clear hc nu nv hq
  go_wp2
  go_ret2
  exact ⟨rfl, q, HQ.out⟩

end Go.Proofs.Ytnlajeinegampaa

namespace Go.Proofs.Ytnlajeinegampaa
open Go.RowKit

theorem limb_ref (v : Value) (xs : List Nat) (i : Int) (w : World) (h : Num w v xs) (hi : 0 ≤ i) :
    Calls Try.prog 73 #[v, .int .i64 i] w fun e w' => e = .returned (.int .u64 ((xs.getD i.toNat 0 : Nat) : Int)) ∧ w' = w := by
  obtain ⟨hb, ao, cap, rfl, hc, hm, hnil, hcell⟩ := h.open_
  clear h
  obtain ⟨k, rfl⟩ := Int.eq_ofNat_of_zero_le hi
  have hlt := limb_lt hb k
  by_cases hk : k < xs.length
  · obtain ⟨b, off, rfl, hc0⟩ := hcell k hk
    rw [Int.toNat_natCast]
    obtain ⟨x, hx⟩ : ∃ x, x = xs.getD k 0 := ⟨_, rfl⟩
    rw [← hx] at hc0 hlt ⊢
    clear hx hcell hnil hb
    go_enter Try.func73, Try.ntmps73
    go_wp2
    go_ret
    exact ⟨rfl, rfl⟩
  · have hg : xs.getD k 0 = 0 := by rw [List.getD_eq_getElem?_getD, List.getElem?_eq_none (by omega)]; rfl
    rw [Int.toNat_natCast, hg]
    clear hcell hnil hb hlt hg
    have hge : ¬ (k : Int) < ((xs.length : Nat) : Int) := by omega
    go_enter Try.func73, Try.ntmps73
    go_wp2
    go_ret
    exact ⟨rfl, rfl⟩

/-- What a teller that makes memory leaves. -/
def Told (B : Nat) (w : World) (v : Value) (en : Ending) (w' : World) : Prop := en = .returned v ∧ Below B w w'


set_option maxRecDepth 100000 in
set_option maxHeartbeats 800000 in
theorem bits_ref (v : Value) (xs : List Nat) (w : World) (h : Num w v xs) (hlen : xs.length ≤ 1099511627776) :
    Calls Try.prog 31 #[v] w fun e w' => Told w.heap.size w (.int .i64 (bl (val xs) : Nat)) e w' := by
  have hls := lim_short h
  go_enter Try.func31, Try.ntmps31
  go_wp2_with fail
  refine (norm_ref _ _ _ h hlen).mono ?_
  rintro e w1 ⟨v1, rfl, ho, hb⟩
  obtain ⟨ao, cap, rfl, hao, hl1, hm1⟩ := ho.ao
  by_cases h0 : val xs = 0
  · have hk0 : (lim (val xs)).length = 0 := by rw [h0, lim_zero]; rfl
    have HB : Hid (bl (val xs) = 0) := by show _ = _; rw [h0]; rfl
    rw [hk0]
    clear hk0 ho h0 hao hls h
    go_wp2
    go_ret
    exact ⟨by rw [HB.out]; rfl, hb⟩
  · obtain ⟨m, t, e1, e2, ht, ht2, e3⟩ := lim_last h0
    obtain ⟨_, aox, capx, ex, _, _, _, cx⟩ := ho.num.open_
    simp only [Value.slice.injEq] at ex
    obtain ⟨rfl, hq1, rfl⟩ := ex
    obtain ⟨b, off, rfl, hc0⟩ := cx m (by omega)
    rw [e2] at hc0
    have HB : Hid (bl (val xs) = 32 * m + bl t) := e3
    have hb32 := bl_le32 ht2
    have hm3 : m ≤ 1099511627776 := by omega
    rw [e1]
    clear e1 e2 e3 hq1 cx ho h0 hao hls h hl1
    have hkf : (((m + 1 : Nat) : Int) == 0) = false := by simp; omega
    go_wp2
    go_loop [4, 5] (fun n tv => ∃ (N T : Nat), n = .int .i64 N ∧ tv = .int .u32 T ∧ T < 4294967296 ∧ N + bl T = 32 * m + bl t) (fun _ tv => (intOf tv).toNat)
    case atStart => exact ⟨32 * m, t, by go_num, rfl, ht2, rfl⟩
    case round =>
      obtain ⟨N, T, rfl, rfl, hT, hinv⟩ := hrel
      by_cases hT0 : 0 < T
      · have hgt : (0 : Int) < (T : Int) := by omega
        have hh := bl_half (t := T) (by omega)
        have HN : Hid (N + 1 + bl (T / 2) = 32 * m + bl t) := by show _ = _; omega
        have hNb : N ≤ 35184372088864 := by omega
        clear hh hinv
        go_wp2
        go_round
        case rel => exact ⟨N + 1, T / 2, by go_num, by go_num, by omega, HN.out⟩
        case measure => simp [intOf]; omega
      · have hT1 : T = 0 := by omega
        subst hT1
        have HN : Hid (N = bl (val xs)) := by show _ = _; rw [HB.out]; rw [bl_zero] at hinv; omega
        clear hinv
        go_wp2
        go_ret
        exact ⟨by rw [HN.out]; rfl, hb⟩
end Go.Proofs.Ytnlajeinegampaa
