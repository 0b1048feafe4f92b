/-
  Proved here: what Parse of package frac answers of a written fraction; what Of answers where the lower number is 0.
-/
import Derived.Test.YtcmclmhfjmmffaaGreatDoorFracUAll
import Derived.Test.YtcmclmhfjmmffaaGreatDoorFracDAll
namespace Go.Proofs.YtcmclmhfjmmffaaGreatDoor
open Go.RowKit

set_option maxRecDepth 100000 in
set_option maxHeartbeats 6400000 in
theorem c_fparse1 (p : Int) (L : Nat) (w : World) (sp : Sz p L) (hL : L ≤ 1000000) (hs : (zt p).size ≤ 1000000) : Calls Tryz.prog 47 #[.string (zt p)] w fun e w' => RTEnd w (Rat.divInt p 1) e w' := by
  obtain ⟨Z, hZ⟩ : ∃ Z, Z = Rat.divInt p 1 := ⟨_, rfl⟩
  have HZ : Hid (Rat.divInt p 1 = Z) := hZ.symm
  rw [← hZ]
  clear hZ
  have hcut := fun w => cut_no (zt p) (by omega) (first_none (fun i hi => zt_no hi)) (ne47 (zt_no (zt_pos_size p))) w
  have hpz := fun w => c_parse_zt p w hs
  obtain ⟨s, hss⟩ : ∃ s, s = zt p := ⟨_, rfl⟩
  rw [← hss] at hcut hpz ⊢
  clear hss hs
  obtain ⟨W1, hW1⟩ : ∃ W1, W1 = w.alloc (.cells #[.bool false, .slice none 0 0, .slice none 0 0] 27) := ⟨_, rfl⟩
  have qR : QCell W1 (w.heap.size) false (.slice none 0 0) (.slice none 0 0) := by rw [hW1]; exact (qcell_new _ (by simp))
  have hb : Below w.heap.size w W1 := by rw [hW1]; exact belowA w _
  have hsz : w.heap.size < W1.heap.size := by rw [hW1]; simp
  have HW1 : Hid (W1 = w.alloc (.cells #[.bool false, .slice none 0 0, .slice none 0 0] 27)) := hW1
  clear hW1
  go_enter Tryz.func47, Tryz.ntmps47
  go_wp2_with fail
  rw [← HW1.out]
  clear HW1
  obtain ⟨g, hg⟩ : ∃ g, g = w.heap.size := ⟨_, rfl⟩
  rw [← hg] at qR hsz ⊢
  have HG : Hid (g = w.heap.size) := hg
  clear hg
  refine (hcut _).mono ?_
  rintro e w2 ⟨rfl, b⟩
  replace qR := qR.below b
  replace hb := bstep hb b
  replace hsz := Nat.lt_of_lt_of_le hsz b.size
  clear b
  clear hcut
  obtain ⟨cqR0, cqR1, cqR2⟩ := qR.cells
  go_wp2_with fail
  clear cqR0 cqR1 cqR2
  refine (hpz _).mono ?_
  rintro e w3 ⟨v, rfl, hv, b⟩
  clear hpz
  obtain ⟨na, ao, al, ac, rfl, ia⟩ := hv.see sp hL
  clear hv
  replace qR := qR.below b
  replace hb := bstep hb b
  replace hsz := Nat.lt_of_lt_of_le hsz b.size
  clear b
  obtain ⟨W4, hW4⟩ : ∃ W, W = w3.alloc (.cells #[.bool na, .slice ao al ac] 25) := ⟨_, rfl⟩
  have qA : ICell W4 (w3.heap.size) na (.slice ao al ac) := by rw [hW4]; exact (icell_new _ rfl)
  have b : Below w3.heap.size w3 W4 := by rw [hW4]; exact belowA _ _
  replace ia := ia.below b
  replace qR := qR.below b
  replace hb := bstep hb b
  replace hsz := Nat.lt_of_lt_of_le hsz b.size
  clear b
  have rqR0 : (w3.alloc (.cells #[.bool na, .slice ao al ac] 25)).cell? ⟨g, 0, none⟩ = some (.bool false) := by rw [← hW4]; exact qR.cells.1
  have rqR1 : (w3.alloc (.cells #[.bool na, .slice ao al ac] 25)).cell? ⟨g, 1, none⟩ = some (.slice none 0 0) := by rw [← hW4]; exact qR.cells.2.1
  have rqR2 : (w3.alloc (.cells #[.bool na, .slice ao al ac] 25)).cell? ⟨g, 2, none⟩ = some (.slice none 0 0) := by rw [← hW4]; exact qR.cells.2.2
  have rqA0 : (w3.alloc (.cells #[.bool na, .slice ao al ac] 25)).cell? ⟨w3.heap.size, 0, none⟩ = some (.bool na) := by rw [← hW4]; exact qA.cells.1
  have rqA1 : (w3.alloc (.cells #[.bool na, .slice ao al ac] 25)).cell? ⟨w3.heap.size, 1, none⟩ = some (.slice ao al ac) := by rw [← hW4]; exact qA.cells.2
  obtain ⟨v4, hv4⟩ : ∃ v, v = w3.heap.size := ⟨_, rfl⟩
  rw [← hv4] at qA
  have HW4 : Hid (W4 = w3.alloc (.cells #[.bool na, .slice ao al ac] 25)) := hW4
  have Hv4 : Hid (v4 = w3.heap.size) := hv4
  clear hW4 hv4
  go_wp2_with fail
  rw [← HW4.out, ← Hv4.out]
  clear HW4 Hv4 rqR0 rqR1 rqR2 rqA0 rqA1
  have hq := parse_any ⟨#[49]⟩ W4 (by decide)
  refine (hq).mono ?_
  rintro e w5 ⟨u, rfl, hu, b⟩
  clear hq
  rw [if_pos (dig1 49 (by decide) (by decide))]
  rw [if_pos (dig1 49 (by decide) (by decide)), show bval (dgs ⟨#[49]⟩) = 1 by decide] at hu
  obtain ⟨bo, bl, bc, rfl⟩ := hu.sl
  have ub := hu.num
  clear hu
  replace ia := ia.below b
  replace qR := qR.below b
  replace qA := qA.below b
  replace hb := bstep hb b
  replace hsz := Nat.lt_of_lt_of_le hsz b.size
  clear b
  obtain ⟨cqR0, cqR1, cqR2⟩ := qR.cells
  obtain ⟨cqA0, cqA1⟩ := qA.cells
  go_wp2_with fail
  clear cqR0 cqR1 cqR2 cqA0 cqA1
  have ib : INum w5 (.agg #[.bool false, .slice bo bl bc]) 1 := ⟨_, _, _, _, _, rfl, ub, Nat.le_trans (lim_len_le (n := 1) (k := 1) (by decide)) (by decide), by rw [val_lim]; rfl⟩
  have hq := c_new_yes ia ib (by decide)
  rw [HZ.out] at hq
  have hszz := hsz
  clear ib
  refine (hq).mono ?_
  rintro e w6 ⟨v, rfl, hv, b⟩
  clear hq
  obtain ⟨m, d, rfl, hm, hd, hap⟩ := hv
  obtain ⟨mo, ml, mc, rfl⟩ := hm.sl
  obtain ⟨mO, mL, mC, rfl⟩ := hd.sl
  replace ia := ia.below b
  replace ub := ub.below (Nat.le_refl _) b
  replace qR := qR.below b
  replace qA := qA.below b
  replace hb := bstep hb b
  replace hsz := Nat.lt_of_lt_of_le hsz b.size
  clear b
  have qq := qR
  have HE : Hid (REnd w Z (.returned (.agg #[.bool (decide (Z.num < 0)), .slice mo ml mc, .slice mO mL mC])) (((w6.setCell ⟨g, 0, none⟩ (.bool (decide (Z.num < 0)))).setCell ⟨g, 1, none⟩ (.slice mo ml mc)).setCell ⟨g, 2, none⟩ (.slice mO mL mC))) := rat_done rfl (by rw [HG.out]; omega) hm hd hap hszz (hb)
  have HW : Hid (QCell (((w6.setCell ⟨g, 0, none⟩ (.bool (decide (Z.num < 0)))).setCell ⟨g, 1, none⟩ (.slice mo ml mc)).setCell ⟨g, 2, none⟩ (.slice mO mL mC)) (g) (decide (Z.num < 0)) (.slice mo ml mc) (.slice mO mL mC)) := qq.write _ _ _
  obtain ⟨y0, y1, y2⟩ := qq.cells
  have f0 := qq.thaw 0
  have f1 := qq.thaw 1
  have f2 := qq.thaw 2
  generalize decide (Z.num < 0) = bb at *
  clear qq hap
  clear hb hsz hszz hm hd qR qA ia ub
  go_wp2_with fail
  (try simp only [Exit.inBlock, Exit.then])
  exact bodyPost_ret (results_ct (p := 2) (u := 3) rfl _ _ (g) 27 _ (0, 0) _ rfl HW.out Tryz.underlying27 rfl (by kernel_rfl)) rfl HE.out.t
set_option maxRecDepth 100000 in
set_option maxHeartbeats 6400000 in
theorem c_fparse2_yes (p : Int) (q L : Nat) (w : World) (sp : Sz p L) (hL : L ≤ 1000000) (lq : (lim q).length ≤ 1000000) (hs : (zt p).size ≤ 1000000) (ht : (txt q).size ≤ 1000000) (hq0 : q ≠ 0) : Calls Tryz.prog 47 #[.string (two47 (zt p) (txt q))] w fun e w' => RTEnd w (Rat.divInt p q) e w' := by
  obtain ⟨Z, hZ⟩ : ∃ Z, Z = Rat.divInt p q := ⟨_, rfl⟩
  have HZ : Hid (Rat.divInt p q = Z) := hZ.symm
  rw [← hZ]
  clear hZ
  have hcut := fun w => cut_two (zt p) (txt q) (zt_pos_size p) (fun i hi => zt_no hi) (by rw [two_size]; omega) w
  have hpz := fun w => c_parse_zt p w hs
  have hpn := fun w => c_nparse q w ht
  obtain ⟨s, hss⟩ : ∃ s, s = two47 (zt p) (txt q) := ⟨_, rfl⟩
  rw [← hss] at hcut ⊢
  obtain ⟨t1, ht1⟩ : ∃ s, s = zt p := ⟨_, rfl⟩
  obtain ⟨t2, ht2⟩ : ∃ s, s = txt q := ⟨_, rfl⟩
  rw [← ht1] at hcut hpz
  rw [← ht2] at hcut hpn
  clear hss hs ht ht1 ht2
  have HQ : Hid (q ≠ 0) := hq0
  clear hq0
  obtain ⟨W1, hW1⟩ : ∃ W1, W1 = w.alloc (.cells #[.bool false, .slice none 0 0, .slice none 0 0] 27) := ⟨_, rfl⟩
  have qR : QCell W1 (w.heap.size) false (.slice none 0 0) (.slice none 0 0) := by rw [hW1]; exact (qcell_new _ (by simp))
  have hb : Below w.heap.size w W1 := by rw [hW1]; exact belowA w _
  have hsz : w.heap.size < W1.heap.size := by rw [hW1]; simp
  have HW1 : Hid (W1 = w.alloc (.cells #[.bool false, .slice none 0 0, .slice none 0 0] 27)) := hW1
  clear hW1
  go_enter Tryz.func47, Tryz.ntmps47
  go_wp2_with fail
  rw [← HW1.out]
  clear HW1
  obtain ⟨g, hg⟩ : ∃ g, g = w.heap.size := ⟨_, rfl⟩
  rw [← hg] at qR hsz ⊢
  have HG : Hid (g = w.heap.size) := hg
  clear hg
  refine (hcut _).mono ?_
  rintro e w2 ⟨rfl, b⟩
  replace qR := qR.below b
  replace hb := bstep hb b
  replace hsz := Nat.lt_of_lt_of_le hsz b.size
  clear b
  clear hcut
  obtain ⟨cqR0, cqR1, cqR2⟩ := qR.cells
  go_wp2_with fail
  clear cqR0 cqR1 cqR2
  refine (hpz _).mono ?_
  rintro e w3 ⟨v, rfl, hv, b⟩
  clear hpz
  obtain ⟨na, ao, al, ac, rfl, ia⟩ := hv.see sp hL
  clear hv
  replace qR := qR.below b
  replace hb := bstep hb b
  replace hsz := Nat.lt_of_lt_of_le hsz b.size
  clear b
  obtain ⟨W4, hW4⟩ : ∃ W, W = w3.alloc (.cells #[.bool na, .slice ao al ac] 25) := ⟨_, rfl⟩
  have qA : ICell W4 (w3.heap.size) na (.slice ao al ac) := by rw [hW4]; exact (icell_new _ rfl)
  have b : Below w3.heap.size w3 W4 := by rw [hW4]; exact belowA _ _
  replace ia := ia.below b
  replace qR := qR.below b
  replace hb := bstep hb b
  replace hsz := Nat.lt_of_lt_of_le hsz b.size
  clear b
  have rqR0 : (w3.alloc (.cells #[.bool na, .slice ao al ac] 25)).cell? ⟨g, 0, none⟩ = some (.bool false) := by rw [← hW4]; exact qR.cells.1
  have rqR1 : (w3.alloc (.cells #[.bool na, .slice ao al ac] 25)).cell? ⟨g, 1, none⟩ = some (.slice none 0 0) := by rw [← hW4]; exact qR.cells.2.1
  have rqR2 : (w3.alloc (.cells #[.bool na, .slice ao al ac] 25)).cell? ⟨g, 2, none⟩ = some (.slice none 0 0) := by rw [← hW4]; exact qR.cells.2.2
  have rqA0 : (w3.alloc (.cells #[.bool na, .slice ao al ac] 25)).cell? ⟨w3.heap.size, 0, none⟩ = some (.bool na) := by rw [← hW4]; exact qA.cells.1
  have rqA1 : (w3.alloc (.cells #[.bool na, .slice ao al ac] 25)).cell? ⟨w3.heap.size, 1, none⟩ = some (.slice ao al ac) := by rw [← hW4]; exact qA.cells.2
  obtain ⟨v4, hv4⟩ : ∃ v, v = w3.heap.size := ⟨_, rfl⟩
  rw [← hv4] at qA
  have HW4 : Hid (W4 = w3.alloc (.cells #[.bool na, .slice ao al ac] 25)) := hW4
  have Hv4 : Hid (v4 = w3.heap.size) := hv4
  clear hW4 hv4
  go_wp2_with fail
  rw [← HW4.out, ← Hv4.out]
  clear HW4 Hv4 rqR0 rqR1 rqR2 rqA0 rqA1
  refine (hpn _).mono ?_
  rintro e w5 ⟨u, rfl, hu, b⟩
  clear hpn
  obtain ⟨bo, bl, bc, rfl⟩ := hu.sl
  have ub := hu.num
  clear hu
  replace ia := ia.below b
  replace qR := qR.below b
  replace qA := qA.below b
  replace hb := bstep hb b
  replace hsz := Nat.lt_of_lt_of_le hsz b.size
  clear b
  obtain ⟨cqR0, cqR1, cqR2⟩ := qR.cells
  obtain ⟨cqA0, cqA1⟩ := qA.cells
  go_wp2_with fail
  clear cqR0 cqR1 cqR2 cqA0 cqA1
  have ib : INum w5 (.agg #[.bool false, .slice bo bl bc]) (q : Int) := ⟨_, _, _, _, _, rfl, ub, lq, by rw [val_lim]; rfl⟩
  have hq := c_new_yes ia ib (by have := HQ.out; omega)
  rw [HZ.out] at hq
  have hszz := hsz
  clear ib
  refine (hq).mono ?_
  rintro e w6 ⟨v, rfl, hv, b⟩
  clear hq
  obtain ⟨m, d, rfl, hm, hd, hap⟩ := hv
  obtain ⟨mo, ml, mc, rfl⟩ := hm.sl
  obtain ⟨mO, mL, mC, rfl⟩ := hd.sl
  replace ia := ia.below b
  replace ub := ub.below (Nat.le_refl _) b
  replace qR := qR.below b
  replace qA := qA.below b
  replace hb := bstep hb b
  replace hsz := Nat.lt_of_lt_of_le hsz b.size
  clear b
  have qq := qR
  have HE : Hid (REnd w Z (.returned (.agg #[.bool (decide (Z.num < 0)), .slice mo ml mc, .slice mO mL mC])) (((w6.setCell ⟨g, 0, none⟩ (.bool (decide (Z.num < 0)))).setCell ⟨g, 1, none⟩ (.slice mo ml mc)).setCell ⟨g, 2, none⟩ (.slice mO mL mC))) := rat_done rfl (by rw [HG.out]; omega) hm hd hap hszz (hb)
  have HW : Hid (QCell (((w6.setCell ⟨g, 0, none⟩ (.bool (decide (Z.num < 0)))).setCell ⟨g, 1, none⟩ (.slice mo ml mc)).setCell ⟨g, 2, none⟩ (.slice mO mL mC)) (g) (decide (Z.num < 0)) (.slice mo ml mc) (.slice mO mL mC)) := qq.write _ _ _
  obtain ⟨y0, y1, y2⟩ := qq.cells
  have f0 := qq.thaw 0
  have f1 := qq.thaw 1
  have f2 := qq.thaw 2
  generalize decide (Z.num < 0) = bb at *
  clear qq hap
  clear hb hsz hszz hm hd qR qA ia ub
  go_wp2_with fail
  (try simp only [Exit.inBlock, Exit.then])
  exact bodyPost_ret (results_ct (p := 2) (u := 3) rfl _ _ (g) 27 _ (0, 0) _ rfl HW.out Tryz.underlying27 rfl (by kernel_rfl)) rfl HE.out.t
set_option maxRecDepth 100000 in
set_option maxHeartbeats 6400000 in
theorem c_fparse2_no (p : Int) (q L : Nat) (w : World) (sp : Sz p L) (hL : L ≤ 1000000) (lq : (lim q).length ≤ 1000000) (hs : (zt p).size ≤ 1000000) (ht : (txt q).size ≤ 1000000) (hq0 : q = 0) : Calls Tryz.prog 47 #[.string (two47 (zt p) (txt q))] w fun e w' => RNo w e w' := by
  have hcut := fun w => cut_two (zt p) (txt q) (zt_pos_size p) (fun i hi => zt_no hi) (by rw [two_size]; omega) w
  have hpz := fun w => c_parse_zt p w hs
  have hpn := fun w => c_nparse q w ht
  obtain ⟨s, hss⟩ : ∃ s, s = two47 (zt p) (txt q) := ⟨_, rfl⟩
  rw [← hss] at hcut ⊢
  obtain ⟨t1, ht1⟩ : ∃ s, s = zt p := ⟨_, rfl⟩
  obtain ⟨t2, ht2⟩ : ∃ s, s = txt q := ⟨_, rfl⟩
  rw [← ht1] at hcut hpz
  rw [← ht2] at hcut hpn
  clear hss hs ht ht1 ht2
  have HQ : Hid (q = 0) := hq0
  clear hq0
  obtain ⟨W1, hW1⟩ : ∃ W1, W1 = w.alloc (.cells #[.bool false, .slice none 0 0, .slice none 0 0] 27) := ⟨_, rfl⟩
  have qR : QCell W1 (w.heap.size) false (.slice none 0 0) (.slice none 0 0) := by rw [hW1]; exact (qcell_new _ (by simp))
  have hb : Below w.heap.size w W1 := by rw [hW1]; exact belowA w _
  have hsz : w.heap.size < W1.heap.size := by rw [hW1]; simp
  have HW1 : Hid (W1 = w.alloc (.cells #[.bool false, .slice none 0 0, .slice none 0 0] 27)) := hW1
  clear hW1
  go_enter Tryz.func47, Tryz.ntmps47
  go_wp2_with fail
  rw [← HW1.out]
  clear HW1
  obtain ⟨g, hg⟩ : ∃ g, g = w.heap.size := ⟨_, rfl⟩
  rw [← hg] at qR hsz ⊢
  have HG : Hid (g = w.heap.size) := hg
  clear hg
  refine (hcut _).mono ?_
  rintro e w2 ⟨rfl, b⟩
  replace qR := qR.below b
  replace hb := bstep hb b
  replace hsz := Nat.lt_of_lt_of_le hsz b.size
  clear b
  clear hcut
  obtain ⟨cqR0, cqR1, cqR2⟩ := qR.cells
  go_wp2_with fail
  clear cqR0 cqR1 cqR2
  refine (hpz _).mono ?_
  rintro e w3 ⟨v, rfl, hv, b⟩
  clear hpz
  obtain ⟨na, ao, al, ac, rfl, ia⟩ := hv.see sp hL
  clear hv
  replace qR := qR.below b
  replace hb := bstep hb b
  replace hsz := Nat.lt_of_lt_of_le hsz b.size
  clear b
  obtain ⟨W4, hW4⟩ : ∃ W, W = w3.alloc (.cells #[.bool na, .slice ao al ac] 25) := ⟨_, rfl⟩
  have qA : ICell W4 (w3.heap.size) na (.slice ao al ac) := by rw [hW4]; exact (icell_new _ rfl)
  have b : Below w3.heap.size w3 W4 := by rw [hW4]; exact belowA _ _
  replace ia := ia.below b
  replace qR := qR.below b
  replace hb := bstep hb b
  replace hsz := Nat.lt_of_lt_of_le hsz b.size
  clear b
  have rqR0 : (w3.alloc (.cells #[.bool na, .slice ao al ac] 25)).cell? ⟨g, 0, none⟩ = some (.bool false) := by rw [← hW4]; exact qR.cells.1
  have rqR1 : (w3.alloc (.cells #[.bool na, .slice ao al ac] 25)).cell? ⟨g, 1, none⟩ = some (.slice none 0 0) := by rw [← hW4]; exact qR.cells.2.1
  have rqR2 : (w3.alloc (.cells #[.bool na, .slice ao al ac] 25)).cell? ⟨g, 2, none⟩ = some (.slice none 0 0) := by rw [← hW4]; exact qR.cells.2.2
  have rqA0 : (w3.alloc (.cells #[.bool na, .slice ao al ac] 25)).cell? ⟨w3.heap.size, 0, none⟩ = some (.bool na) := by rw [← hW4]; exact qA.cells.1
  have rqA1 : (w3.alloc (.cells #[.bool na, .slice ao al ac] 25)).cell? ⟨w3.heap.size, 1, none⟩ = some (.slice ao al ac) := by rw [← hW4]; exact qA.cells.2
  obtain ⟨v4, hv4⟩ : ∃ v, v = w3.heap.size := ⟨_, rfl⟩
  rw [← hv4] at qA
  have HW4 : Hid (W4 = w3.alloc (.cells #[.bool na, .slice ao al ac] 25)) := hW4
  have Hv4 : Hid (v4 = w3.heap.size) := hv4
  clear hW4 hv4
  go_wp2_with fail
  rw [← HW4.out, ← Hv4.out]
  clear HW4 Hv4 rqR0 rqR1 rqR2 rqA0 rqA1
  refine (hpn _).mono ?_
  rintro e w5 ⟨u, rfl, hu, b⟩
  clear hpn
  obtain ⟨bo, bl, bc, rfl⟩ := hu.sl
  have ub := hu.num
  clear hu
  replace ia := ia.below b
  replace qR := qR.below b
  replace qA := qA.below b
  replace hb := bstep hb b
  replace hsz := Nat.lt_of_lt_of_le hsz b.size
  clear b
  obtain ⟨cqR0, cqR1, cqR2⟩ := qR.cells
  obtain ⟨cqA0, cqA1⟩ := qA.cells
  go_wp2_with fail
  clear cqR0 cqR1 cqR2 cqA0 cqA1
  have ib : INum w5 (.agg #[.bool false, .slice bo bl bc]) (q : Int) := ⟨_, _, _, _, _, rfl, ub, lq, by rw [val_lim]; rfl⟩
  have hq := c_new_no ia ib (by have := HQ.out; omega)
  clear ib
  refine (hq).mono ?_
  rintro e w6 ⟨rfl, b⟩
  clear hq
  replace ia := ia.below b
  replace ub := ub.below (Nat.le_refl _) b
  replace qR := qR.below b
  replace qA := qA.below b
  replace hb := bstep hb b
  replace hsz := Nat.lt_of_lt_of_le hsz b.size
  clear b
  have HE : Hid (Below w.heap.size w (((w6.setCell ⟨g, 0, none⟩ (.bool false)).setCell ⟨g, 1, none⟩ (.slice none 0 0)).setCell ⟨g, 2, none⟩ (.slice none 0 0))) := iend3 hb (by rw [HG.out]; omega)
  have HW : Hid (QCell (((w6.setCell ⟨g, 0, none⟩ (.bool false)).setCell ⟨g, 1, none⟩ (.slice none 0 0)).setCell ⟨g, 2, none⟩ (.slice none 0 0)) (g) false (.slice none 0 0) (.slice none 0 0)) := qR.write _ _ _
  obtain ⟨y0, y1, y2⟩ := qR.cells
  have f0 := qR.thaw 0
  have f1 := qR.thaw 1
  have f2 := qR.thaw 2
  clear hb hsz qR qA ia ub
  go_wp2_with fail
  (try simp only [Exit.inBlock, Exit.then])
  exact bodyPost_ret (results_ct (p := 2) (u := 3) rfl _ _ (g) 27 _ (0, 0) _ rfl HW.out Tryz.underlying27 rfl (by kernel_rfl)) rfl ⟨rfl, HE.out⟩
set_option maxRecDepth 100000 in
set_option maxHeartbeats 6400000 in
theorem c_fof_no {n : Int} {w : World} (h1 : -9223372036854775808 ≤ n) (h2 : n ≤ 9223372036854775807) : Calls Tryz.prog 36 #[.int .i64 n, .int .i64 0] w fun e w' => RNo w e w' := by
  obtain ⟨W1, hW1⟩ : ∃ W1, W1 = w.alloc (.cells #[.bool false, .slice none 0 0, .slice none 0 0] 27) := ⟨_, rfl⟩
  have qR : QCell W1 (w.heap.size) false (.slice none 0 0) (.slice none 0 0) := by rw [hW1]; exact (qcell_new _ (by simp))
  have hb : Below w.heap.size w W1 := by rw [hW1]; exact belowA w _
  have hsz : w.heap.size < W1.heap.size := by rw [hW1]; simp
  have HW1 : Hid (W1 = w.alloc (.cells #[.bool false, .slice none 0 0, .slice none 0 0] 27)) := hW1
  clear hW1
  go_enter Tryz.func36, Tryz.ntmps36
  go_wp2_with fail
  rw [← HW1.out]
  clear HW1
  obtain ⟨g, hg⟩ : ∃ g, g = w.heap.size := ⟨_, rfl⟩
  rw [← hg] at qR hsz ⊢
  have HG : Hid (g = w.heap.size) := hg
  clear hg
  refine (c_of h1 h2).mono ?_
  rintro e w2 ⟨v, rfl, hv, b⟩
  obtain ⟨na, ao, al, ac, rfl, ia⟩ := hv.see (sz_of h1 h2) (by decide)
  clear hv
  replace qR := qR.below b
  replace hb := bstep hb b
  replace hsz := Nat.lt_of_lt_of_le hsz b.size
  clear b
  obtain ⟨cqR0, cqR1, cqR2⟩ := qR.cells
  go_wp2_with fail
  clear cqR0 cqR1 cqR2
  refine (c_of (n := 0) (by decide) (by decide)).mono ?_
  rintro e w3 ⟨v, rfl, hv, b⟩
  obtain ⟨nb, bo, bl, bc, rfl, ib⟩ := hv.see Sz.zero (by decide)
  clear hv
  replace ia := ia.below b
  replace qR := qR.below b
  replace hb := bstep hb b
  replace hsz := Nat.lt_of_lt_of_le hsz b.size
  clear b
  obtain ⟨cqR0, cqR1, cqR2⟩ := qR.cells
  go_wp2_with fail
  clear cqR0 cqR1 cqR2
  have hq := c_new_no ia ib rfl
  refine (hq).mono ?_
  rintro e w4 ⟨rfl, b⟩
  clear hq
  replace ia := ia.below b
  replace ib := ib.below b
  replace qR := qR.below b
  replace hb := bstep hb b
  replace hsz := Nat.lt_of_lt_of_le hsz b.size
  clear b
  have HE : Hid (Below w.heap.size w (((w4.setCell ⟨g, 0, none⟩ (.bool false)).setCell ⟨g, 1, none⟩ (.slice none 0 0)).setCell ⟨g, 2, none⟩ (.slice none 0 0))) := iend3 hb (by rw [HG.out]; omega)
  have HW : Hid (QCell (((w4.setCell ⟨g, 0, none⟩ (.bool false)).setCell ⟨g, 1, none⟩ (.slice none 0 0)).setCell ⟨g, 2, none⟩ (.slice none 0 0)) (g) false (.slice none 0 0) (.slice none 0 0)) := qR.write _ _ _
  obtain ⟨y0, y1, y2⟩ := qR.cells
  have f0 := qR.thaw 0
  have f1 := qR.thaw 1
  have f2 := qR.thaw 2
  clear hb hsz qR ia ib
  go_wp2_with fail
  (try simp only [Exit.inBlock, Exit.then])
  exact bodyPost_ret (results_ct (p := 4) (u := 5) rfl _ _ (g) 27 _ (0, 0) _ rfl HW.out Tryz.underlying27 rfl (by kernel_rfl)) rfl ⟨rfl, HE.out⟩
/-- What is written is read. -/
theorem c_parse_rt {x : Rat} {L : Nat} {w : World} (hs : RSz x L) (hL : L ≤ 10000) : Calls Tryz.prog 47 #[.string (rt x)] w fun e w' => RTEnd w x e w' := by
  have h1 := zt_size hs.num
  have h2 := hs.den.len
  rw [Int.natAbs_natCast] at h2
  have h3 := txt_short (n := x.den) (L := L) h2
  unfold rt
  by_cases h : x.den = 1
  · rw [if_pos h]
    have h4 := c_fparse1 x.num L w hs.num (by omega) (by omega)
    have e : Rat.divInt x.num 1 = x := by
      have h5 := Rat.num_divInt_den x
      rw [h] at h5
      exact h5
    rw [e] at h4
    exact h4
  · rw [if_neg h]
    have h4 := c_fparse2_yes x.num x.den L w hs.num (by omega) (by omega) (by omega) (by omega) x.den_nz
    rw [Rat.num_divInt_den] at h4
    exact h4
end Go.Proofs.YtcmclmhfjmmffaaGreatDoor
