/-
  Proved here: what Sub, fresh and Norm answer.
-/
import Derived.Test.YtnlajeinegampaaBlendFn
import Derived.Test.YtnlajeinegampaaFresh
namespace Go.Proofs.Ytnlajeinegampaa
open Go.RowKit


/-- What Sub leaves. -/
def SubEnd (B : Nat) (w : World) (xs : List Nat) (en : Ending) (w' : World) : Prop := ∃ v, en = .returned (.tuple #[v, .bool true]) ∧ Own B 40 w' v xs ∧ Below B w w'

set_option maxRecDepth 100000 in
set_option maxHeartbeats 1600000 in
theorem sub_yes (u v : Value) (xs ys : List Nat) (w : World) (hu : Num w u xs) (hv : Num w v ys) (hbx : xs.length ≤ 1099511627776) (hby : ys.length ≤ 1099511627776) (hle : val ys ≤ val xs) :
    Calls Try.prog 115 #[u, v] w fun e w' => SubEnd w.heap.size w (lim (val xs - val ys)) e w' := by
  obtain ⟨ao, cap, rfl, hl1, hm1⟩ := hu.ao
  obtain ⟨bo, dap, rfl, hl2, hm2⟩ := hv.ao
  go_enter Try.func115, Try.ntmps115
  go_wp2_with fail
  refine (trim_any _ _ _ hu).mono ?_
  rintro e w1 ⟨⟨k, hk, hk2, rfl⟩, rfl⟩
  go_wp2_with fail
  refine (trim_any _ _ _ hv).mono ?_
  rintro e w1 ⟨⟨m, hm, hm3, rfl⟩, rfl⟩
  simp only [cutTo]
  have nu := hu.cut hk
  have nv := hv.cut hm
  rw [hk2] at nu
  rw [hm3] at nv
  simp only [cutTo] at nu nv
  have hlx : (lim (val xs)).length ≤ 1099511627776 := by rw [← hk2, List.length_take]; omega
  have hly : (lim (val ys)).length ≤ 1099511627776 := by rw [← hm3, List.length_take]; omega
  clear hu hv hk2 hm3 hk hm
  go_wp2_with fail
  refine (cmp_any _ _ _ _ _ nu nv).mono ?_
  rintro e w2 ⟨rfl, q, hq⟩
  have hnl : ¬ cmpN (val (lim (val xs))) (val (lim (val ys))) < 0 := by
    rw [val_lim, val_lim]
    rcases cmpN_cases (val xs) (val ys) with h | h | h <;> omega
  obtain ⟨c, hc⟩ : ∃ c, c = cmpN (val (lim (val xs))) (val (lim (val ys))) := ⟨_, rfl⟩
  rw [← hc] at hnl ⊢
  have hb2 : Below w1.heap.size w1 w2 := by rw [hq]; exact below_drewN (Below.refl _ _) q
  have hs2 : w2.heap.size = w1.heap.size := by rw [hq, heap_drewN]
  have nu2 := nu.below (Nat.le_refl _) hb2
  have nv2 := nv.below (Nat.le_refl _) hb2
  have HS : Hid (w2.heap.size = w1.heap.size) := hs2
  clear hc nu nv hq hs2
  go_wp2_with fail
  refine (blend_any _ _ _ _ 1 1 _ nu2 nv2 (by omega) (by omega) (by omega) (by omega) hlx hly ?_ ?_).mono ?_
  · rw [val_lim, val_lim]; simpa using hle
  · rw [val_lim, val_lim]
    simp only [Int.toNat_one, Nat.mul_one]
    refine Nat.lt_of_le_of_lt (Nat.sub_le _ _) (lim_lt_of_len (Nat.le_max_left _ _))
  rintro e w3 ⟨v3, rfl, ho3, hb3⟩
  rw [val_lim, val_lim] at ho3
  simp only [Int.toNat_one, Nat.mul_one] at ho3
  rw [HS.out] at ho3 hb3
  have hb4 := hb2.trans hb3
  clear hb2 hb3 nu2 nv2
  go_wp2
  go_ret2
  exact ⟨_, rfl, ho3, hb4⟩

set_option maxRecDepth 100000 in
set_option maxHeartbeats 1600000 in
theorem sub_no (u v : Value) (xs ys : List Nat) (w : World) (hu : Num w u xs) (hv : Num w v ys) (hle : val xs < val ys) :
    Calls Try.prog 115 #[u, v] w fun e w' => e = .returned (.tuple #[.slice none 0 0, .bool false]) ∧ ∃ q, w' = w.drewN q := by
  obtain ⟨ao, cap, rfl, hl1, hm1⟩ := hu.ao
  obtain ⟨bo, dap, rfl, hl2, hm2⟩ := hv.ao
  go_enter Try.func115, Try.ntmps115
  go_wp2_with fail
  refine (trim_any _ _ _ hu).mono ?_
  rintro e w1 ⟨⟨k, hk, hk2, rfl⟩, rfl⟩
  go_wp2_with fail
  refine (trim_any _ _ _ hv).mono ?_
  rintro e w1 ⟨⟨m, hm, hm3, rfl⟩, rfl⟩
  simp only [cutTo]
  have nu := hu.cut hk
  have nv := hv.cut hm
  rw [hk2] at nu
  rw [hm3] at nv
  simp only [cutTo] at nu nv
  clear hu hv hk2 hm3 hk hm
  go_wp2_with fail
  refine (cmp_any _ _ _ _ _ nu nv).mono ?_
  rintro e w2 ⟨rfl, q, hq⟩
  have HQ : Hid (w2 = w1.drewN q) := hq
  have hc : cmpN (val (lim (val xs))) (val (lim (val ys))) = -1 := by rw [val_lim, val_lim]; exact cmpN_lt hle
  rw [hc]
  clear hc nu nv hq
  go_wp2
  go_ret2
  exact ⟨rfl, q, HQ.out⟩

end Go.Proofs.Ytnlajeinegampaa
