/-
  Proved here: what Sign, Neg, size, onSideOf and less of package whole answer.
-/
import Derived.Test.YtmcnpiajnehnlabDoorWholeG
namespace Go.Proofs.YtmcnpiajnehnlabDoor
open Go.RowKit
attribute [local go_sem ↓] Go.wp_at_zero Go.wp_at_succ

theorem icell_step {w : World} {o : Obj} {g : Nat} {neg : Bool} {m : Value} (h : ICell w g neg m) : ICell (w.alloc o) g neg m := h.below (belowA _ _)
theorem icell_new (w : World) {neg : Bool} {m : Value} {k : Nat} (hk : w.heap.size = k) : ICell (w.alloc (.cells #[.bool neg, m] 25)) k neg m := by subst hk; exact ICell.new w neg m
theorem INum.opp {w : World} {na : Bool} {m : Value} {x : Int} (h : INum w (.agg #[.bool na, m]) x) : INum w (.agg #[.bool (!na), m]) (-x) := by
  obtain ⟨neg, ao, n, cap, xs, e, h1, h2, rfl⟩ := h
  simp only [Value.agg.injEq, Array.mk.injEq, List.cons.injEq, Value.bool.injEq, and_true] at e
  obtain ⟨rfl, rfl⟩ := e
  exact ⟨_, _, _, _, _, rfl, h1, h2, by rw [zv_neg]⟩
theorem INum.abs {w : World} {na : Bool} {ao : Option Addr} {al ac : Nat} {x : Int} (h : INum w (.agg #[.bool na, .slice ao al ac]) x) : ∃ xs, Num w (.slice ao al ac) xs ∧ xs.length ≤ 1000000 ∧ val xs = x.natAbs ∧ zv na (val xs) = x := by
  obtain ⟨neg, ao', n, cap, xs, e, h1, h2, rfl⟩ := h
  simp only [Value.agg.injEq, Array.mk.injEq, List.cons.injEq, Value.bool.injEq, and_true, Value.slice.injEq] at e
  obtain ⟨rfl, rfl, rfl, rfl⟩ := e
  exact ⟨xs, h1, h2, (zv_abs _ _).symm, rfl⟩

theorem below_drew' (w : World) : Below w.heap.size w w.drew := (Below.refl _ _).drew
theorem IOwn.mono {B B' : Nat} {w : World} {v : Value} {z : Int} (h : IOwn B w v z) (hB : B' ≤ B) : IOwn B' w v z := by
  obtain ⟨m, e, ho⟩ := h
  exact ⟨m, e, ho.mono hB⟩
theorem c_below {a : Value} {x : Int} {w : World} (ha : INum w a x) : Calls Tryd.prog 25 #[a] w fun e w' => e = .returned (.bool (decide (x < 0))) ∧ Below w.heap.size w w' := by
  obtain ⟨na, ao, al, ac, xs, rfl, h1, h2, rfl⟩ := ha
  rw [← below_zv]
  exact below_any _ _ _ _ _ _ h1 h2

set_option maxRecDepth 100000 in
set_option maxHeartbeats 3200000 in
theorem c_sign {a : Value} {x : Int} {w : World} (ha : INum w a x) : Calls Tryd.prog 11 #[a] w fun e w' => e = .returned (.int .i64 (cmpZ x 0)) ∧ Below w.heap.size w w' := by
  obtain ⟨c, hc⟩ : ∃ c, c = cmpZ x 0 := ⟨_, rfl⟩
  have HC : Hid (c = cmpZ x 0) := hc
  rw [← hc]
  clear hc
  obtain ⟨na, ao, al, ac, xa, rfl, ua, la, za⟩ := ha
  have ha : INum w (.agg #[.bool na, .slice ao al ac]) x := ⟨_, _, _, _, _, rfl, ua, la, za⟩
  clear ua la za
  obtain ⟨W1, hW1⟩ : ∃ W1, W1 = w.alloc (.cells #[.bool na, .slice ao al ac] 25) := ⟨_, rfl⟩
  have q0 : ICell W1 (w.heap.size) na (.slice ao al ac) := by rw [hW1]; exact (icell_new _ (by simp))
  have hb : Below w.heap.size w W1 := by rw [hW1]; exact belowA w _
  have hsz : w.heap.size < W1.heap.size := by rw [hW1]; simp
  replace ha := ha.below hb
  have HW1 : Hid (W1 = w.alloc (.cells #[.bool na, .slice ao al ac] 25)) := hW1
  clear hW1
  go_enter Tryd.func11, Tryd.ntmps11
  go_wp2_with fail
  rw [← HW1.out]
  clear HW1
  obtain ⟨g, hg⟩ : ∃ g, g = w.heap.size := ⟨_, rfl⟩
  rw [← hg] at q0 hsz ⊢
  have HG : Hid (g = w.heap.size) := hg
  clear hg
  refine (c_cmp ha (INum.nil _)).mono ?_
  rintro e w2 ⟨rfl, hb2⟩
  have HE : Hid (Below w.heap.size w w2) := bstep hb hb2
  clear hb2 hb
  rw [← HC.out]
  go_wp2_with fail
  go_ret
  exact ⟨rfl, HE.out⟩
set_option maxRecDepth 100000 in
set_option maxHeartbeats 3200000 in
theorem c_neg {a : Value} {x : Int} {w : World} (ha : INum w a x) : Calls Tryd.prog 53 #[a] w fun e w' => IEnd w (-x) e w' := by
  obtain ⟨Z, hZ⟩ : ∃ Z, Z = -x := ⟨_, rfl⟩
  have HZ : Hid (-x = Z) := hZ.symm
  rw [← hZ]
  clear hZ
  obtain ⟨na, ao, al, ac, xa, rfl, ua, la, za⟩ := ha
  have ha : INum w (.agg #[.bool na, .slice ao al ac]) x := ⟨_, _, _, _, _, rfl, ua, la, za⟩
  clear ua la za
  obtain ⟨W1, hW1⟩ : ∃ W1, W1 = (w.alloc (.cells #[.bool na, .slice ao al ac] 25)).alloc (.cells #[.bool false, .slice none 0 0] 25) := ⟨_, rfl⟩
  have q0 : ICell W1 (w.heap.size) na (.slice ao al ac) := by rw [hW1]; exact (icell_step (icell_new _ (by simp)))
  have q1 : ICell W1 (w.heap.size + 1) false (.slice none 0 0) := by rw [hW1]; exact (icell_new _ (by simp))
  have hb : Below w.heap.size w W1 := by rw [hW1]; exact bstep (belowA w _) (belowA _ _)
  have hsz : w.heap.size + 1 < W1.heap.size := by rw [hW1]; simp
  replace ha := ha.below hb
  have HW1 : Hid (W1 = (w.alloc (.cells #[.bool na, .slice ao al ac] 25)).alloc (.cells #[.bool false, .slice none 0 0] 25)) := hW1
  clear hW1
  go_enter Tryd.func53, Tryd.ntmps53
  go_wp2_with fail
  rw [← HW1.out]
  clear HW1
  obtain ⟨g, hg⟩ : ∃ g, g = w.heap.size := ⟨_, rfl⟩
  rw [← hg] at q0 q1 hsz ⊢
  have HG : Hid (g = w.heap.size) := hg
  clear hg
  refine (opposite_any _ _ _ _ _).mono ?_
  rintro e w2 ⟨rfl, hb2⟩
  have hn := (ha.below hb2).opp
  rw [HZ.out] at hn
  replace hb := bstep hb hb2
  replace q1 := q1.below hb2
  replace hsz := Nat.lt_of_lt_of_le hsz hb2.size
  clear q0 hb2 ha
  generalize (!na) = nna at *
  go_wp2_with fail
  refine (c_norm hn).mono ?_
  rintro e w3 ⟨v, rfl, hv, hb3⟩
  replace q1 := q1.below hb3
  replace hb := bstep hb hb3
  clear hn
  obtain ⟨m, rfl, hm⟩ := hv
  obtain ⟨mo, ml, mc, rfl⟩ := hm.sl
  have HE : Hid (IEnd w (Z) (.returned (.agg #[.bool (decide (Z < 0)), .slice mo ml mc])) ((w3.setCell ⟨g + 1, 0, none⟩ (.bool (decide (Z < 0)))).setCell ⟨g + 1, 1, none⟩ (.slice mo ml mc))) := (int_done rfl (by rw [HG.out]; omega) hm hsz hb).i
  have HW : Hid (ICell ((w3.setCell ⟨g + 1, 0, none⟩ (.bool (decide (Z < 0)))).setCell ⟨g + 1, 1, none⟩ (.slice mo ml mc)) (g + 1) (decide (Z < 0)) (.slice mo ml mc)) := q1.write _ _
  obtain ⟨y0, y1⟩ := q1.cells
  have f0 := q1.thaw 0
  have f1 := q1.thaw 1
  generalize decide (Z < 0) = bb at *
  clear q1 hb hsz hm hb3
  go_wp2_with fail
  (try simp only [Exit.inBlock, Exit.then])
  exact bodyPost_ret (results_cell_row rfl _ _ (g + 1) 25 _ (0, 0) _ rfl HW.out Tryd.underlying25 rfl (by kernel_rfl)) rfl HE.out
set_option maxRecDepth 100000 in
set_option maxHeartbeats 3200000 in
theorem c_size {a : Value} {x : Int} {w : World} (ha : INum w a x) : Calls Tryd.prog 33 #[a] w fun e w' => IEnd w (x.natAbs : Int) e w' := by
  obtain ⟨na, ao, al, ac, xa, rfl, ua, la, za⟩ := ha
  have ha : INum w (.agg #[.bool na, .slice ao al ac]) x := ⟨_, _, _, _, _, rfl, ua, la, za⟩
  clear ua la za
  obtain ⟨W1, hW1⟩ : ∃ W1, W1 = (w.alloc (.cells #[.bool na, .slice ao al ac] 25)).alloc (.cells #[.bool false, .slice none 0 0] 25) := ⟨_, rfl⟩
  have q0 : ICell W1 (w.heap.size) na (.slice ao al ac) := by rw [hW1]; exact (icell_step (icell_new _ (by simp)))
  have q1 : ICell W1 (w.heap.size + 1) false (.slice none 0 0) := by rw [hW1]; exact (icell_new _ (by simp))
  have hb : Below w.heap.size w W1 := by rw [hW1]; exact bstep (belowA w _) (belowA _ _)
  have hsz : w.heap.size + 1 < W1.heap.size := by rw [hW1]; simp
  replace ha := ha.below hb
  have HW1 : Hid (W1 = (w.alloc (.cells #[.bool na, .slice ao al ac] 25)).alloc (.cells #[.bool false, .slice none 0 0] 25)) := hW1
  clear hW1
  obtain ⟨xs, na1, hlx, hvx, _⟩ := ha.abs
  obtain ⟨Z, hZ⟩ : ∃ Z : Int, Z = (x.natAbs : Int) := ⟨_, rfl⟩
  have HZ : Hid (Z = (x.natAbs : Int)) := hZ
  rw [← hZ]
  clear hZ
  obtain ⟨c0, d0⟩ := q0.cells
  go_enter Tryd.func33, Tryd.ntmps33
  go_wp2_with fail
  rw [← HW1.out]
  clear HW1
  obtain ⟨g, hg⟩ : ∃ g, g = w.heap.size := ⟨_, rfl⟩
  rw [← hg] at q0 q1 hsz ⊢
  have HG : Hid (g = w.heap.size) := hg
  clear hg
  refine (norm_any _ _ _ na1 (by omega)).mono ?_
  rintro e w2 ⟨m, rfl, hm, hb2⟩
  obtain ⟨mo, ml, mc, rfl⟩ := hm.sl
  replace hb := bstep hb hb2
  replace q1 := q1.below hb2
  have HB : Hid (g + 1 < W1.heap.size) := hsz
  go_wp2_with fail
  refine (signed_any _ _ _ _ hm.num).mono ?_
  rintro e w3 ⟨rfl, hb3⟩
  rw [Bool.false_and]
  replace q1 := q1.below hb3
  replace hb := bstep hb hb3
  replace hm := hm.below hb3
  rw [hvx] at hm
  have HD : Hid (false = decide (Z < 0)) := by show _ = _; rw [HZ.out]; exact (decide_eq_false (by omega)).symm
  have HE : Hid (IEnd w Z (.returned (.agg #[.bool false, .slice mo ml mc])) ((w3.setCell ⟨g + 1, 0, none⟩ (.bool false)).setCell ⟨g + 1, 1, none⟩ (.slice mo ml mc))) := (int_done HD.out (by rw [HG.out]; omega) (by rw [HZ.out, Int.natAbs_natCast]; exact hm) HB.out hb).i
  have HW : Hid (ICell ((w3.setCell ⟨g + 1, 0, none⟩ (.bool false)).setCell ⟨g + 1, 1, none⟩ (.slice mo ml mc)) (g + 1) false (.slice mo ml mc)) := q1.write _ _
  obtain ⟨y0, y1⟩ := q1.cells
  have f0 := q1.thaw 0
  have f1 := q1.thaw 1
  clear q0 q1 hb hsz hm hb2 hb3 c0 d0 ha na1
  go_wp2_with fail
  (try simp only [Exit.inBlock, Exit.then])
  exact bodyPost_ret (results_cell_row rfl _ _ (g + 1) 25 _ (0, 0) _ rfl HW.out Tryd.underlying25 rfl (by kernel_rfl)) rfl HE.out
set_option maxRecDepth 100000 in
set_option maxHeartbeats 3200000 in
theorem c_less {a b c : Value} {x y z : Int} {w : World} (ha : INum w a x) (hb' : INum w b y) (hc : INum w c z) {L : Nat} (hS : Sz (y * z) L) (hL : L ≤ 1000000) : Calls Tryd.prog 52 #[a, b, c] w fun e w' => IEnd w (x - y * z) e w' := by
  obtain ⟨Z, hZ⟩ : ∃ Z, Z = x - y * z := ⟨_, rfl⟩
  have HZ : Hid (x - y * z = Z) := hZ.symm
  rw [← hZ]
  clear hZ
  obtain ⟨na, ao, al, ac, xa, rfl, ua, la, za⟩ := ha
  have ha : INum w (.agg #[.bool na, .slice ao al ac]) x := ⟨_, _, _, _, _, rfl, ua, la, za⟩
  clear ua la za
  obtain ⟨nb, bo, bl, bc, xb, rfl, ub, lb, zb⟩ := hb'
  have hb' : INum w (.agg #[.bool nb, .slice bo bl bc]) y := ⟨_, _, _, _, _, rfl, ub, lb, zb⟩
  clear ub lb zb
  obtain ⟨nc, co, cl, cc, xc, rfl, uc, lc, zc⟩ := hc
  have hc : INum w (.agg #[.bool nc, .slice co cl cc]) z := ⟨_, _, _, _, _, rfl, uc, lc, zc⟩
  clear uc lc zc
  obtain ⟨W1, hW1⟩ : ∃ W1, W1 = (((w.alloc (.cells #[.bool na, .slice ao al ac] 25)).alloc (.cells #[.bool nb, .slice bo bl bc] 25)).alloc (.cells #[.bool nc, .slice co cl cc] 25)).alloc (.cells #[.bool false, .slice none 0 0] 25) := ⟨_, rfl⟩
  have q0 : ICell W1 (w.heap.size) na (.slice ao al ac) := by rw [hW1]; exact (icell_step (icell_step (icell_step (icell_new _ (by simp)))))
  have q1 : ICell W1 (w.heap.size + 1) nb (.slice bo bl bc) := by rw [hW1]; exact (icell_step (icell_step (icell_new _ (by simp))))
  have q2 : ICell W1 (w.heap.size + 1 + 1) nc (.slice co cl cc) := by rw [hW1]; exact (icell_step (icell_new _ (by simp)))
  have q3 : ICell W1 (w.heap.size + 1 + 1 + 1) false (.slice none 0 0) := by rw [hW1]; exact (icell_new _ (by simp))
  have hb : Below w.heap.size w W1 := by rw [hW1]; exact bstep (bstep (bstep (belowA w _) (belowA _ _)) (belowA _ _)) (belowA _ _)
  have hsz : w.heap.size + 1 + 1 + 1 < W1.heap.size := by rw [hW1]; simp
  replace ha := ha.below hb
  replace hb' := hb'.below hb
  replace hc := hc.below hb
  have HW1 : Hid (W1 = (((w.alloc (.cells #[.bool na, .slice ao al ac] 25)).alloc (.cells #[.bool nb, .slice bo bl bc] 25)).alloc (.cells #[.bool nc, .slice co cl cc] 25)).alloc (.cells #[.bool false, .slice none 0 0] 25)) := hW1
  clear hW1
  go_enter Tryd.func52, Tryd.ntmps52
  go_wp2_with fail
  rw [← HW1.out]
  clear HW1
  obtain ⟨g, hg⟩ : ∃ g, g = w.heap.size := ⟨_, rfl⟩
  rw [← hg] at q0 q1 q2 q3 hsz ⊢
  have HG : Hid (g = w.heap.size) := hg
  clear hg
  have hne0 : ¬ g = g + 1 + 1 + 1 := by omega
  have HX : Hid (ICell W1 (g + 1 + 1 + 1) false (.slice none 0 0)) := q3
  obtain ⟨c0, d0⟩ := q0.cells
  obtain ⟨c1, d1⟩ := q1.cells
  obtain ⟨c2, d2⟩ := q2.cells
  go_region_held3 (fun w' => w'.cell? ⟨g, 0, none⟩ = some (.bool na) ∧ w'.cell? ⟨g, 1, none⟩ = some (.slice ao al ac) ∧ w'.cell? ⟨g + 1, 0, none⟩ = some (.bool nb) ∧ w'.cell? ⟨g + 1, 1, none⟩ = some (.slice bo bl bc) ∧ w'.cell? ⟨g + 1 + 1, 0, none⟩ = some (.bool nc) ∧ w'.cell? ⟨g + 1 + 1, 1, none⟩ = some (.slice co cl cc)) (((try dsimp only); go_split_ands; refine ⟨?_, ?_, ?_, ?_, ?_, ?_⟩ <;> first | exact keepB (by with_reducible assumption) (by with_reducible assumption) | exact keepS (by omega) (by with_reducible assumption) | go_keep)) (first
    | (go_at_call 14; refine (c_mul (hb'.below (below_drew' _)) (hc.below (below_drew' _))).mono ?_; rintro e w2 ⟨p, rfl, hp, hb2⟩; have hpn := hp.num hS hL; obtain ⟨pn, po, pl, pc, px, rfl, pu, pll, pz⟩ := hpn; have hpp : INum w2 (.agg #[.bool pn, .slice po pl pc]) (y * z) := ⟨_, _, _, _, _, rfl, pu, pll, pz⟩; clear hp pu pll pz)
    | (go_at_call 12; refine (c_sub ((ha.below (below_drew' _)).below hb2) hpp).mono ?_; rw [HZ.out]; rintro e w3 ⟨v, rfl, hv, hb3⟩; obtain ⟨m, rfl, hm⟩ := hv; obtain ⟨mo, ml, mc, rfl⟩ := hm.sl; have q3' := (((show ICell W1.drew (g + 1 + 1 + 1) false (.slice none 0 0) from HX.out).below hb2).below hb3); have y0 := q3'.cells.1; have y1 := q3'.cells.2; have f0 := q3'.thaw 0; have f1 := q3'.thaw 1))
  all_goals
    have HE : Hid (IEnd w Z (.returned (.agg #[.bool (decide (Z < 0)), .slice mo ml mc])) ((w3.setCell ⟨g + 1 + 1 + 1, 0, none⟩ (.bool (decide (Z < 0)))).setCell ⟨g + 1 + 1 + 1, 1, none⟩ (.slice mo ml mc))) := (int_done rfl (by rw [HG.out]; omega) hm (Nat.lt_of_lt_of_le hsz (Nat.le_trans (below_drew' _).size hb2.size)) (bstep (bstep (bstep hb (below_drew' _)) hb2) hb3)).i
    have HW : Hid (ICell ((w3.setCell ⟨g + 1 + 1 + 1, 0, none⟩ (.bool (decide (Z < 0)))).setCell ⟨g + 1 + 1 + 1, 1, none⟩ (.slice mo ml mc)) (g + 1 + 1 + 1) (decide (Z < 0)) (.slice mo ml mc)) := q3'.write _ _
    clear hm hb2 hb3 q3' y0 y1 f0 f1 c0 c1 c2 d0 d1 d2
    go_wp2_with fail
    (try simp only [Exit.inBlock, Exit.then])
    exact bodyPost_ret (results_cell_row rfl _ _ (g + 1 + 1 + 1) 25 _ (0, 0) _ rfl HW.out Tryd.underlying25 rfl (by kernel_rfl)) rfl HE.out
set_option maxRecDepth 100000 in
set_option maxHeartbeats 3200000 in
theorem c_onSide {a b : Value} {x y : Int} {w : World} {B : Nat} (ha : INum w a x) (ho : IOwn B w b y) (hB : B ≤ w.heap.size) {L : Nat} (hS : Sz y L) (hL : L ≤ 1000000) :
    Calls Tryd.prog 35 #[a, b] w fun e w' => ∃ v, e = .returned v ∧ IOwn B w' v (if x < 0 then -y else y) ∧ Below w.heap.size w w' := by
  have hb' := ho.num hS hL
  obtain ⟨Z, hZ⟩ : ∃ Z, Z = if x < 0 then -y else y := ⟨_, rfl⟩
  have HZ : Hid (Z = if x < 0 then -y else y) := hZ
  rw [← hZ]
  clear hZ
  obtain ⟨mm, rfl, hmm⟩ := ho
  obtain ⟨bo, bl, bc, rfl⟩ := hmm.sl
  obtain ⟨nb, hnb⟩ : ∃ nb, nb = decide (y < 0) := ⟨_, rfl⟩
  rw [← hnb] at hb' ⊢
  have HNB : Hid (nb = decide (y < 0)) := hnb
  have HK : Hid (∀ k, (Value.slice bo bl bc).ownBlock = some k → k < w.heap.size) := fun k hk => (hmm.block k hk).2
  clear hnb
  obtain ⟨na, ao, al, ac, xa, rfl, ua, la, za⟩ := ha
  have ha : INum w (.agg #[.bool na, .slice ao al ac]) x := ⟨_, _, _, _, _, rfl, ua, la, za⟩
  clear ua la za
  obtain ⟨W1, hW1⟩ : ∃ W1, W1 = ((w.alloc (.cells #[.bool na, .slice ao al ac] 25)).alloc (.cells #[.bool nb, .slice bo bl bc] 25)).alloc (.cells #[.bool false, .slice none 0 0] 25) := ⟨_, rfl⟩
  have q0 : ICell W1 (w.heap.size) na (.slice ao al ac) := by rw [hW1]; exact (icell_step (icell_step (icell_new _ (by simp))))
  have q1 : ICell W1 (w.heap.size + 1) nb (.slice bo bl bc) := by rw [hW1]; exact (icell_step (icell_new _ (by simp)))
  have q2 : ICell W1 (w.heap.size + 1 + 1) false (.slice none 0 0) := by rw [hW1]; exact (icell_new _ (by simp))
  have hb : Below w.heap.size w W1 := by rw [hW1]; exact bstep (bstep (belowA w _) (belowA _ _)) (belowA _ _)
  have hsz : w.heap.size + 1 + 1 < W1.heap.size := by rw [hW1]; simp
  replace ha := ha.below hb
  replace hb' := hb'.below hb
  have HW1 : Hid (W1 = ((w.alloc (.cells #[.bool na, .slice ao al ac] 25)).alloc (.cells #[.bool nb, .slice bo bl bc] 25)).alloc (.cells #[.bool false, .slice none 0 0] 25)) := hW1
  clear hW1
  go_enter Tryd.func35, Tryd.ntmps35
  go_wp2_with fail
  rw [← HW1.out]
  clear HW1
  obtain ⟨g, hg⟩ : ∃ g, g = w.heap.size := ⟨_, rfl⟩
  rw [← hg] at q0 q1 q2 hsz ⊢
  have HG : Hid (g = w.heap.size) := hg
  clear hg
  refine (c_below ha).mono ?_
  rintro e w2 ⟨rfl, hb2⟩
  replace hmm := (hmm.below hb).below hb2
  replace hb' := hb'.below hb2
  replace q1 := q1.below hb2
  replace q2 := q2.below hb2
  replace hb := bstep hb hb2
  have hsz2 := Nat.lt_of_lt_of_le hsz hb2.size
  clear q0 hb2 ha
  obtain ⟨c1, d1⟩ := q1.cells
  by_cases hx : x < 0
  · rw [decide_eq_true hx]
    have HY : Hid (-y = Z) := by show _ = _; rw [HZ.out, if_pos hx]
    clear hx
    go_wp2_with fail
    refine (c_neg hb').mono ?_
    rintro e w3 ⟨v, rfl, hv, hb3⟩
    rw [HY.out] at hv
    replace q2 := q2.below hb3
    replace hb := bstep hb hb3
    obtain ⟨m, rfl, hm⟩ := hv
    obtain ⟨mo, ml, mc, rfl⟩ := hm.sl
    have HE : Hid (IEnd w (Z) (.returned (.agg #[.bool (decide (Z < 0)), .slice mo ml mc])) ((w3.setCell ⟨g + 1 + 1, 0, none⟩ (.bool (decide (Z < 0)))).setCell ⟨g + 1 + 1, 1, none⟩ (.slice mo ml mc))) := (int_done rfl (by rw [HG.out]; omega) hm hsz2 hb).i
    have HW : Hid (ICell ((w3.setCell ⟨g + 1 + 1, 0, none⟩ (.bool (decide (Z < 0)))).setCell ⟨g + 1 + 1, 1, none⟩ (.slice mo ml mc)) (g + 1 + 1) (decide (Z < 0)) (.slice mo ml mc)) := q2.write _ _
    obtain ⟨y0, y1⟩ := q2.cells
    have f0 := q2.thaw 0
    have f1 := q2.thaw 1
    generalize decide (Z < 0) = bb at *
    obtain ⟨v2, he2, ho2, hbb2⟩ := HE.out
    have HE2 : Hid (∃ v, (Ending.returned (.agg #[.bool bb, .slice mo ml mc])) = .returned v ∧ IOwn B ((w3.setCell ⟨g + 1 + 1, 0, none⟩ (.bool bb)).setCell ⟨g + 1 + 1, 1, none⟩ (.slice mo ml mc)) v Z ∧ Below w.heap.size w ((w3.setCell ⟨g + 1 + 1, 0, none⟩ (.bool bb)).setCell ⟨g + 1 + 1, 1, none⟩ (.slice mo ml mc))) := ⟨v2, he2, ho2.mono hB, hbb2⟩
    clear q1 q2 hb hsz hsz2 hm hb3 he2 ho2 hbb2 HE hmm c1 d1
    go_wp2_with fail
    (try simp only [Exit.inBlock, Exit.then])
    exact bodyPost_ret (results_cell_row rfl _ _ (g + 1 + 1) 25 _ (0, 0) _ rfl HW.out Tryd.underlying25 rfl (by kernel_rfl)) rfl HE2.out
  · rw [decide_eq_false hx]
    have HY : Hid (y = Z) := by show _ = _; rw [HZ.out, if_neg hx]
    clear hx
    have HW : Hid (ICell ((w2.setCell ⟨g + 1 + 1, 0, none⟩ (.bool nb)).setCell ⟨g + 1 + 1, 1, none⟩ (.slice bo bl bc)) (g + 1 + 1) nb (.slice bo bl bc)) := q2.write _ _
    have hne : (Value.slice bo bl bc).ownBlock = none ∨ (Value.slice bo bl bc).ownBlock ≠ some (g + 1 + 1) := by
      cases hk : (Value.slice bo bl bc).ownBlock with
      | none => exact Or.inl rfl
      | some k =>
        right
        intro e
        rw [Option.some.injEq] at e
        have := HK.out k hk
        rw [HG.out] at e
        omega
    have HE2 : Hid (∃ v, (Ending.returned (.agg #[.bool nb, .slice bo bl bc])) = .returned v ∧ IOwn B ((w2.setCell ⟨g + 1 + 1, 0, none⟩ (.bool nb)).setCell ⟨g + 1 + 1, 1, none⟩ (.slice bo bl bc)) v Z ∧ Below w.heap.size w ((w2.setCell ⟨g + 1 + 1, 0, none⟩ (.bool nb)).setCell ⟨g + 1 + 1, 1, none⟩ (.slice bo bl bc))) := ⟨_, rfl, by rw [← HY.out]; exact ⟨_, by rw [HNB.out], (hmm.other (.bool nb) hne).other _ hne⟩, (hb.setCell (p := ⟨g + 1 + 1, 0, none⟩) (by rw [HG.out]; show w.heap.size ≤ w.heap.size + 1 + 1; omega) _).setCell (p := ⟨g + 1 + 1, 1, none⟩) (by rw [HG.out]; show w.heap.size ≤ w.heap.size + 1 + 1; omega) _⟩
    obtain ⟨y0, y1⟩ := q2.cells
    have f0 := q2.thaw 0
    have f1 := q2.thaw 1
    clear q1 q2 hb hsz hsz2 hmm hb' hne
    go_wp2_with fail
    (try simp only [Exit.inBlock, Exit.then])
    exact bodyPost_ret (results_cell_row rfl _ _ (g + 1 + 1) 25 _ (0, 0) _ rfl HW.out Tryd.underlying25 rfl (by kernel_rfl)) rfl HE2.out
end Go.Proofs.YtmcnpiajnehnlabDoor
