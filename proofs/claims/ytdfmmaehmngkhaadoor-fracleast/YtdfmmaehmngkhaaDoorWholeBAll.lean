/-
  Proved here: what Sub, fresh and Norm answer.
  Proved here: what Uint answers.
  Proved here: what Uint and Sub answer of any numbers.
  Proved here: small steps from world to world.
  Proved here: what Of, Add, Sub and Text of package whole answer.
-/
import Derived.Test.YtdfmmaehmngkhaaDoorBlendFnAll
import Derived.Test.YtdfmmaehmngkhaaDoorValAtAll
import Derived.Test.YtdfmmaehmngkhaaDoorSmallAll
import Derived.Test.YtdfmmaehmngkhaaDoorTrimAll
import Derived.Test.YtdfmmaehmngkhaaDoorFamAll
namespace Go.Proofs.YtdfmmaehmngkhaaDoor
open Go.RowKit


/-- What Sub leaves. -/
def SubEnd (B : Nat) (w : World) (xs : List Nat) (en : Ending) (w' : World) : Prop := ∃ v, en = .returned (.tuple #[v, .bool true]) ∧ Own B 68 w' v xs ∧ Below B w w'

set_option maxRecDepth 100000 in
set_option maxHeartbeats 1600000 in
theorem sub_yes (u v : Value) (xs ys : List Nat) (w : World) (hu : Num w u xs) (hv : Num w v ys) (hbx : xs.length ≤ 1099511627776) (hby : ys.length ≤ 1099511627776) (hle : val ys ≤ val xs) :
    Calls Tryd.prog 56 #[u, v] w fun e w' => SubEnd w.heap.size w (lim (val xs - val ys)) e w' := by
  obtain ⟨ao, cap, rfl, hl1, hm1⟩ := hu.ao
  obtain ⟨bo, dap, rfl, hl2, hm2⟩ := hv.ao
  go_enter Tryd.func56, Tryd.ntmps56
  go_wp2_with fail
  refine (trim_any _ _ _ hu).mono ?_
  rintro e w1 ⟨⟨k, hk, hk2, rfl⟩, rfl⟩
  go_wp2_with fail
  refine (trim_any _ _ _ hv).mono ?_
  rintro e w1 ⟨⟨m, hm, hm3, rfl⟩, rfl⟩
  simp only [cutTo]
  have nu := hu.cut hk
  have nv := hv.cut hm
  rw [hk2] at nu
  rw [hm3] at nv
  simp only [cutTo] at nu nv
  have hlx : (lim (val xs)).length ≤ 1099511627776 := by rw [← hk2, List.length_take]; omega
  have hly : (lim (val ys)).length ≤ 1099511627776 := by rw [← hm3, List.length_take]; omega
  clear hu hv hk2 hm3 hk hm
  go_wp2_with fail
  refine (cmp_any _ _ _ _ _ nu nv).mono ?_
  rintro e w2 ⟨rfl, q, hq⟩
  have hnl : ¬ cmpN (val (lim (val xs))) (val (lim (val ys))) < 0 := by
    rw [val_lim, val_lim]
    rcases cmpN_cases (val xs) (val ys) with h | h | h <;> omega
  obtain ⟨c, hc⟩ : ∃ c, c = cmpN (val (lim (val xs))) (val (lim (val ys))) := ⟨_, rfl⟩
  rw [← hc] at hnl ⊢
  have hb2 : Below w1.heap.size w1 w2 := by rw [hq]; exact below_drewN (Below.refl _ _) q
  have hs2 : w2.heap.size = w1.heap.size := by rw [hq, heap_drewN]
  have nu2 := nu.below (Nat.le_refl _) hb2
  have nv2 := nv.below (Nat.le_refl _) hb2
  have HS : Hid (w2.heap.size = w1.heap.size) := hs2
  clear hc nu nv hq hs2
  go_wp2_with fail
  refine (blend_any _ _ _ _ 1 1 _ nu2 nv2 (by omega) (by omega) (by omega) (by omega) hlx hly ?_ ?_).mono ?_
  · rw [val_lim, val_lim]; simpa using hle
  · rw [val_lim, val_lim]
    simp only [Int.toNat_one, Nat.mul_one]
    refine Nat.lt_of_le_of_lt (Nat.sub_le _ _) (lim_lt_of_len (Nat.le_max_left _ _))
  rintro e w3 ⟨v3, rfl, ho3, hb3⟩
  rw [val_lim, val_lim] at ho3
  simp only [Int.toNat_one, Nat.mul_one] at ho3
  rw [HS.out] at ho3 hb3
  have hb4 := hb2.trans hb3
  clear hb2 hb3 nu2 nv2
  go_wp2
  go_ret2
  exact ⟨_, rfl, ho3, hb4⟩

set_option maxRecDepth 100000 in
set_option maxHeartbeats 1600000 in
theorem sub_no (u v : Value) (xs ys : List Nat) (w : World) (hu : Num w u xs) (hv : Num w v ys) (hle : val xs < val ys) :
    Calls Tryd.prog 56 #[u, v] w fun e w' => e = .returned (.tuple #[.slice none 0 0, .bool false]) ∧ ∃ q, w' = w.drewN q := by
  obtain ⟨ao, cap, rfl, hl1, hm1⟩ := hu.ao
  obtain ⟨bo, dap, rfl, hl2, hm2⟩ := hv.ao
  go_enter Tryd.func56, Tryd.ntmps56
  go_wp2_with fail
  refine (trim_any _ _ _ hu).mono ?_
  rintro e w1 ⟨⟨k, hk, hk2, rfl⟩, rfl⟩
  go_wp2_with fail
  refine (trim_any _ _ _ hv).mono ?_
  rintro e w1 ⟨⟨m, hm, hm3, rfl⟩, rfl⟩
  simp only [cutTo]
  have nu := hu.cut hk
  have nv := hv.cut hm
  rw [hk2] at nu
  rw [hm3] at nv
  simp only [cutTo] at nu nv
  clear hu hv hk2 hm3 hk hm
  go_wp2_with fail
  refine (cmp_any _ _ _ _ _ nu nv).mono ?_
  rintro e w2 ⟨rfl, q, hq⟩
  have HQ : Hid (w2 = w1.drewN q) := hq
  have hc : cmpN (val (lim (val xs))) (val (lim (val ys))) = -1 := by rw [val_lim, val_lim]; exact cmpN_lt hle
  rw [hc]
  clear hc nu nv hq
  go_wp2
  go_ret2
  exact ⟨rfl, q, HQ.out⟩

end Go.Proofs.YtdfmmaehmngkhaaDoor

namespace Go.Proofs.YtdfmmaehmngkhaaDoor
open Go.RowKit

set_option maxHeartbeats 400000 in
theorem uint_yes (v : Value) (xs : List Nat) (w : World) (h : Num w v xs) (hsm : val xs < 18446744073709551616) :
    Calls Tryd.prog 62 #[v] w fun e w' => e = .returned (.tuple #[.int .u64 (val xs : Nat), .bool true]) ∧ w' = w := by
  obtain ⟨ao, cap, hv⟩ : ∃ ao cap, v = .slice ao xs.length cap := by obtain ⟨_, ao, cap, hv, _⟩ := h; exact ⟨ao, cap, hv⟩
  subst hv
  have hl2 : (lim (val xs)).length ≤ 2 := lim_len_le hsm
  have hg := getD_lim_two (val xs) hsm
  go_enter Tryd.func62, Tryd.ntmps62
  go_wp2_with fail
  refine (trim_any _ _ _ h).mono ?_
  rintro e w' ⟨⟨k, hk, hk2, rfl⟩, rfl⟩
  have h2 := h.cut hk
  rw [hk2] at h2
  simp only [cutTo] at h2 ⊢
  have hkl : k ≤ 2 := by rw [← hk2, List.length_take, Nat.min_eq_left hk] at hl2; exact hl2
  have hkk : ¬ (2 : Int) < (k : Int) := by omega
  generalize hV : val xs = V at *
  have HV : Hid (val xs = V) := hV
  have Hg1 : Hid ((lim V).getD 0 0 = V % 4294967296) := hg.1
  have Hg2 : Hid ((lim V).getD 1 0 = V / 4294967296) := hg.2
  clear hV h hk2 hl2 hg
  go_wp2_with fail
  refine (limb_any _ _ _ _ h2 (by decide)).mono ?_
  rintro e w' ⟨rfl, rfl⟩
  rw [show (Int.toNat 0) = 0 from rfl, Hg1.out]
  go_wp2_with fail
  refine (limb_any _ _ _ _ h2 (by decide)).mono ?_
  rintro e w' ⟨rfl, rfl⟩
  rw [show (Int.toNat 1) = 1 from rfl, Hg2.out]
  have HO : Hid (bits BinOp.or IntKind.u64 ((V : Int) % 4294967296) ((V : Int) / 4294967296 * 4294967296) = (V : Int)) := or_halves V hsm
  go_wp2
  go_ret2
  refine ⟨?_, rfl⟩
  rw [HO.out, HV.out]; rfl
end Go.Proofs.YtdfmmaehmngkhaaDoor

namespace Go.Proofs.YtdfmmaehmngkhaaDoor
open Go.RowKit

def leB (a b : Nat) : Bool := decide (a ≤ b)

/-- What Sub leaves, either way. -/
def SubTold (B : Nat) (w : World) (a b : Nat) (en : Ending) (w' : World) : Prop := ∃ v, en = .returned (.tuple #[v, .bool (leB b a)]) ∧ Own B 68 w' v (lim (a - b)) ∧ Below B w w'
theorem sub_all (u v : Value) (xs ys : List Nat) (w : World) (hu : Num w u xs) (hv : Num w v ys) (hbx : xs.length ≤ 1099511627776) (hby : ys.length ≤ 1099511627776) :
    Calls Tryd.prog 56 #[u, v] w fun e w' => SubTold w.heap.size w (val xs) (val ys) e w' := by
  unfold SubTold
  by_cases hs : val ys ≤ val xs
  · rw [show leB (val ys) (val xs) = true by simp [leB, hs]]
    exact sub_yes u v xs ys w hu hv hbx hby hs
  · rw [show leB (val ys) (val xs) = false by simp [leB, hs], show val xs - val ys = 0 by omega]
    refine (sub_no u v xs ys w hu hv (by omega)).mono ?_
    rintro e w' ⟨rfl, q, rfl⟩
    exact ⟨_, rfl, Own.of_nil _ _ _, below_drewN (Below.refl _ _) q⟩
end Go.Proofs.YtdfmmaehmngkhaaDoor

namespace Go.Proofs.YtdfmmaehmngkhaaDoor
open Go.RowKit

theorem belowA (w : World) (o : Obj) : Below w.heap.size w (w.alloc o) := (Below.refl _ _).alloc (Nat.le_refl _) o
theorem belowDN (w : World) (q : Nat) : Below w.heap.size w (w.drewN q) := below_drewN (Below.refl _ _) q
theorem belowK {w w' : World} {k : Nat} (h : w' = w.drewN k) : Below w.heap.size w w' := by rw [h]; exact belowDN _ _
/-- One step on. -/
theorem bstep {w wr w' : World} (h : Below w.heap.size w wr) (hb : Below wr.heap.size wr w') : Below w.heap.size w w' := h.trans (hb.mono h.size)
end Go.Proofs.YtdfmmaehmngkhaaDoor

namespace Go.Proofs.YtdfmmaehmngkhaaDoor
open Go.RowKit

/-- The whole number of a side and a size. -/
def zv (neg : Bool) (n : Nat) : Int := if neg then -(n : Int) else n
/-- What a function leaves that answers a whole number. -/
def IntEnd (w : World) (z : Int) (e : Ending) (w' : World) : Prop :=
  ∃ m, e = .returned (.agg #[.bool (decide (z < 0)), m]) ∧ Own w.heap.size 68 w' m (lim z.natAbs) ∧ Below w.heap.size w w'
theorem lim_pos_len {n : Nat} : 0 < (lim n).length ↔ n ≠ 0 := by
  constructor
  · intro h h0; subst h0; simp [lim_zero] at h
  · intro h
    rcases Nat.eq_zero_or_pos (lim n).length with h0 | h0
    · exfalso; apply h; rw [← val_lim n, List.length_eq_zero_iff.1 h0]; rfl
    · exact h0
theorem sign_eq (neg : Bool) (n : Nat) : (neg && decide (0 < (lim n).length)) = decide (zv neg n < 0) := by
  cases neg
  · simp [zv]
  · by_cases h : n = 0
    · subst h; rfl
    · rw [decide_eq_true (lim_pos_len.2 h), decide_eq_true (show zv true n < 0 by unfold zv; simp; omega)]; rfl
theorem zv_abs (neg : Bool) (n : Nat) : (zv neg n).natAbs = n := by cases neg <;> simp [zv]

theorem int_done {w w3 : World} {g B : Nat} {z : Int} {b : Bool} {m : Value} (hb : b = decide (z < 0)) (hg : w.heap.size ≤ g) (ho : Own B 68 w3 m (lim z.natAbs)) (hgB : g < B) (hbel : Below w.heap.size w w3) :
    IntEnd w z (.returned (.agg #[.bool b, m])) ((w3.setCell ⟨g, 0, none⟩ (.bool b)).setCell ⟨g, 1, none⟩ m) := by
  have hne : m.ownBlock = none ∨ m.ownBlock ≠ some g := by
    cases hm : m.ownBlock with
    | none => exact Or.inl rfl
    | some k =>
      right
      intro e
      rw [Option.some.injEq] at e
      have := (ho.block k hm).1
      omega
  exact ⟨m, by rw [hb], ((ho.other (.bool b) hne).other m hne).mono (by omega), (hbel.setCell (p := ⟨g, 0, none⟩) hg _).setCell (p := ⟨g, 1, none⟩) hg _⟩

set_option maxRecDepth 100000 in
set_option maxHeartbeats 3200000 in
theorem wof_any (n : Int) (w : World) (h1 : -9223372036854775808 ≤ n) (h2 : n ≤ 9223372036854775807) :
    Calls Tryd.prog 10 #[.int .i64 n] w fun e w' => IntEnd w n e w' := by
  obtain ⟨W1, hW1⟩ : ∃ W1, W1 = w.alloc (.cells #[.bool false, .slice none 0 0] 25) := ⟨_, rfl⟩
  have hi : ICell W1 w.heap.size false (.slice none 0 0) := by rw [hW1]; exact ICell.new w _ _
  have hb1 : Below w.heap.size w W1 := by rw [hW1]; exact (Below.refl _ _).alloc (Nat.le_refl _) _
  have hsz : w.heap.size < W1.heap.size := by rw [hW1]; simp
  have HW1 : Hid (W1 = w.alloc (.cells #[.bool false, .slice none 0 0] 25)) := hW1
  clear hW1
  by_cases hn : n < 0
  · obtain ⟨k, hk⟩ : ∃ k : Nat, n = -(k : Int) := ⟨n.natAbs, by omega⟩
    have hk0 : k ≠ 0 := by omega
    have hk1 : k ≤ 9223372036854775808 := by omega
    subst hk
    have e1 : IntKind.u64.wrap (-(k : Int)) = 18446744073709551616 - (k : Int) := by rw [IntKind.wrap_u64]; omega
    have e2 : IntKind.u64.wrap (-(18446744073709551616 - (k : Int))) = (k : Int) := by rw [IntKind.wrap_u64]; omega
    go_enter Tryd.func10, Tryd.ntmps10
    go_wp2_with fail
    rw [← HW1.out]
    refine (of_any k W1 (by omega)).mono ?_
    rintro e w2 ⟨m, rfl, hm, hb2⟩
    obtain ⟨ao, nl, cap, rfl⟩ := hm.sl
    go_wp2_with fail
    refine (signed_any _ _ _ _ hm.num).mono ?_
    rintro e w3 ⟨rfl, hb3⟩
    rw [sign_eq]
    have hi3 := (hi.below hb2).below hb3
    have hm3 := hm.below hb3
    have hbel3 := bstep (bstep hb1 hb2) hb3
    obtain ⟨b, hb⟩ : ∃ b, b = decide (zv true k < 0) := ⟨_, rfl⟩
    rw [← hb]
    have HE : Hid (IntEnd w (-(k : Int)) (.returned (.agg #[.bool b, .slice ao nl cap])) ((w3.setCell ⟨w.heap.size, 0, none⟩ (.bool b)).setCell ⟨w.heap.size, 1, none⟩ (.slice ao nl cap))) :=
      int_done (by rw [hb]; rfl) (Nat.le_refl _) (by rw [Int.natAbs_neg, Int.natAbs_natCast]; exact hm3) hsz hbel3
    obtain ⟨c0, c1⟩ := hi3.cells
    have f0 := hi3.thaw 0
    have f1 := hi3.thaw 1
    have HW : Hid (ICell ((w3.setCell ⟨w.heap.size, 0, none⟩ (.bool b)).setCell ⟨w.heap.size, 1, none⟩ (.slice ao nl cap)) w.heap.size b (.slice ao nl cap)) := hi3.write _ _
    clear hb hi hi3 hm hm3 hb1 hb2 hb3 hbel3 hsz
    go_wp2_with fail
    (try simp only [Exit.inBlock, Exit.then])
    exact bodyPost_ret (results_cell_row rfl _ _ w.heap.size 25 _ (0, 0) _ rfl HW.out Tryd.underlying25 rfl (by kernel_rfl)) rfl HE.out
  · obtain ⟨k, hk⟩ : ∃ k : Nat, n = (k : Int) := ⟨n.natAbs, by omega⟩
    have hk1 : k ≤ 9223372036854775807 := by omega
    subst hk
    have hn' : ¬ (k : Int) < 0 := hn
    go_enter Tryd.func10, Tryd.ntmps10
    go_wp2_with fail
    rw [← HW1.out]
    refine (of_any k W1 (by omega)).mono ?_
    rintro e w2 ⟨m, rfl, hm, hb2⟩
    obtain ⟨ao, nl, cap, rfl⟩ := hm.sl
    go_wp2_with fail
    refine (signed_any _ _ _ _ hm.num).mono ?_
    rintro e w3 ⟨rfl, hb3⟩
    rw [sign_eq]
    have hi3 := (hi.below hb2).below hb3
    have hm3 := hm.below hb3
    have hbel3 := bstep (bstep hb1 hb2) hb3
    obtain ⟨b, hb⟩ : ∃ b, b = decide (zv false k < 0) := ⟨_, rfl⟩
    rw [← hb]
    have HE : Hid (IntEnd w (k : Int) (.returned (.agg #[.bool b, .slice ao nl cap])) ((w3.setCell ⟨w.heap.size, 0, none⟩ (.bool b)).setCell ⟨w.heap.size, 1, none⟩ (.slice ao nl cap))) :=
      int_done (by rw [hb]; rfl) (Nat.le_refl _) (by rw [Int.natAbs_natCast]; exact hm3) hsz hbel3
    obtain ⟨c0, c1⟩ := hi3.cells
    have f0 := hi3.thaw 0
    have f1 := hi3.thaw 1
    have HW : Hid (ICell ((w3.setCell ⟨w.heap.size, 0, none⟩ (.bool b)).setCell ⟨w.heap.size, 1, none⟩ (.slice ao nl cap)) w.heap.size b (.slice ao nl cap)) := hi3.write _ _
    clear hb hi hi3 hm hm3 hb1 hb2 hb3 hbel3 hsz
    go_wp2_with fail
    (try simp only [Exit.inBlock, Exit.then])
    exact bodyPost_ret (results_cell_row rfl _ _ w.heap.size 25 _ (0, 0) _ rfl HW.out Tryd.underlying25 rfl (by kernel_rfl)) rfl HE.out
end Go.Proofs.YtdfmmaehmngkhaaDoor
