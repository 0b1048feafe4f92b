/-
  Proved here: what Simplest of the document's layer 3 answers.
-/
import Derived.Test.YtfnafgjnimfmjaaGreatDoorRBtw
import Derived.Test.YtfnafgjnimfmjaaGreatDoorSimp3
namespace Go.Proofs.YtfnafgjnimfmjaaGreatDoor
open Go.RowKit
attribute [local go_sem ↓] Go.wp_at_zero Go.wp_at_succ

set_option maxRecDepth 100000 in
set_option maxHeartbeats 6400000 in
theorem rsimp_no {w : World} {va vb : Value} {a b : Rat} (hA : RQ w va a) (hB : RQ w vb b) (hc : 0 < cmpQ a b) : Calls Tryz.prog 13 #[va, vb] w fun e w' => RNo3 w e w' := by
  obtain ⟨na, ao, al, ac, aO, aL, aC, rfl⟩ := hA.see
  obtain ⟨nb, bo, bl, bc, bO, bL, bC, rfl⟩ := hB.see
  have HC : Hid (0 < cmpQ a b) := hc
  clear hc
  obtain ⟨W1, hW1⟩ : ∃ W1, W1 = ((w.alloc (.cells #[.bool na, .slice ao al ac, .slice aO aL aC] 27)).alloc (.cells #[.bool nb, .slice bo bl bc, .slice bO bL bC] 27)).alloc (.cells #[.bool false, .slice none 0 0, .slice none 0 0] 27) := ⟨_, rfl⟩
  have qa : QCell W1 (w.heap.size) na (.slice ao al ac) (.slice aO aL aC) := by rw [hW1]; exact (qcell_step (qcell_step (qcell_new _ (by simp))))
  have qb : QCell W1 (w.heap.size + 1) nb (.slice bo bl bc) (.slice bO bL bC) := by rw [hW1]; exact (qcell_step (qcell_new _ (by simp)))
  have qR : QCell W1 (w.heap.size + 1 + 1) false (.slice none 0 0) (.slice none 0 0) := by rw [hW1]; exact (qcell_new _ (by simp))
  have hb : Below w.heap.size w W1 := by rw [hW1]; exact bstep (bstep (belowA w _) (belowA _ _)) (belowA _ _)
  have hsz : w.heap.size + 1 + 1 < W1.heap.size := by rw [hW1]; simp
  replace hA := hA.below hb
  replace hB := hB.below hb
  have HW1 : Hid (W1 = ((w.alloc (.cells #[.bool na, .slice ao al ac, .slice aO aL aC] 27)).alloc (.cells #[.bool nb, .slice bo bl bc, .slice bO bL bC] 27)).alloc (.cells #[.bool false, .slice none 0 0, .slice none 0 0] 27)) := hW1
  clear hW1
  go_enter Tryz.func13, Tryz.ntmps13
  go_wp2_with fail
  rw [← HW1.out]
  clear HW1
  obtain ⟨g, hg⟩ : ∃ g, g = w.heap.size := ⟨_, rfl⟩
  rw [← hg] at qa qb qR hsz ⊢
  have HG : Hid (g = w.heap.size) := hg
  clear hg
  obtain ⟨cqa0, cqa1, cqa2⟩ := qa.cells
  obtain ⟨cqb0, cqb1, cqb2⟩ := qb.cells
  obtain ⟨cqR0, cqR1, cqR2⟩ := qR.cells
  go_wp2_with fail
  clear cqa0 cqa1 cqa2 cqb0 cqb1 cqb2 cqR0 cqR1 cqR2
  have hq := qCmp hA hB
  obtain ⟨c, hc⟩ : ∃ c, c = cmpQ a b := ⟨_, rfl⟩
  have hc0 : 0 < c := by rw [hc]; have := HC.out; omega
  rw [← hc] at hq
  clear hc
  refine (hq).mono ?_
  rintro e w2 ⟨rfl, b⟩
  clear hq
  replace hA := hA.below b
  replace hB := hB.below b
  replace qa := qa.below b
  replace qb := qb.below b
  replace qR := qR.below b
  replace hb := bstep hb b
  replace hsz := Nat.lt_of_lt_of_le hsz b.size
  clear b
  have HE : Hid (Below w.heap.size w (((w2.setCell ⟨g + 1 + 1, 0, none⟩ (.bool false)).setCell ⟨g + 1 + 1, 1, none⟩ (.slice none 0 0)).setCell ⟨g + 1 + 1, 2, none⟩ (.slice none 0 0))) := iend3 hb (by rw [HG.out]; omega)
  have HW : Hid (QCell (((w2.setCell ⟨g + 1 + 1, 0, none⟩ (.bool false)).setCell ⟨g + 1 + 1, 1, none⟩ (.slice none 0 0)).setCell ⟨g + 1 + 1, 2, none⟩ (.slice none 0 0)) (g + 1 + 1) false (.slice none 0 0) (.slice none 0 0)) := qR.write _ _ _
  obtain ⟨y0, y1, y2⟩ := qR.cells
  have f0 := qR.thaw 0
  have f1 := qR.thaw 1
  have f2 := qR.thaw 2
  clear hb hsz hA hB qa qb qR
  go_wp2_with fail
  (try simp only [Exit.inBlock, Exit.then])
  exact bodyPost_ret (results_ct (p := 4) (u := 5) rfl _ _ (g + 1 + 1) 27 _ (0, 0) _ rfl HW.out Tryz.underlying27 rfl (by kernel_rfl)) rfl ⟨rfl, HE.out⟩
set_option maxRecDepth 100000 in
set_option maxHeartbeats 6400000 in
theorem rsimp_pos {w : World} {va vb : Value} {a b : Rat} (hA : RQ w va a) (hB : RQ w vb b) (hc : cmpQ a b ≤ 0) (hp : 0 < a.num) : Calls Tryz.prog 13 #[va, vb] w fun e w' => RTEnd w (sQ a b) e w' := by
  obtain ⟨na, ao, al, ac, aO, aL, aC, rfl⟩ := hA.see
  obtain ⟨nb, bo, bl, bc, bO, bL, bC, rfl⟩ := hB.see
  have HC : Hid (cmpQ a b ≤ 0) := hc
  have HU : Hid (UpTo a b) := ⟨hp, cmpQ_le (by omega)⟩
  have H1 : Hid (0 < sgnQ a ∧ 0 < sgnQ b) := ⟨sgn_pos.2 hp, sgn_pos.2 (UpTo.pos2 ⟨hp, cmpQ_le (by omega)⟩)⟩
  obtain ⟨Z, hZ⟩ : ∃ Z, Z = sQ a b := ⟨_, rfl⟩
  rw [← hZ]
  have HZ : Hid (sQ a b = Z) := hZ.symm
  clear hc hp hZ
  obtain ⟨W1, hW1⟩ : ∃ W1, W1 = ((w.alloc (.cells #[.bool na, .slice ao al ac, .slice aO aL aC] 27)).alloc (.cells #[.bool nb, .slice bo bl bc, .slice bO bL bC] 27)).alloc (.cells #[.bool false, .slice none 0 0, .slice none 0 0] 27) := ⟨_, rfl⟩
  have qa : QCell W1 (w.heap.size) na (.slice ao al ac) (.slice aO aL aC) := by rw [hW1]; exact (qcell_step (qcell_step (qcell_new _ (by simp))))
  have qb : QCell W1 (w.heap.size + 1) nb (.slice bo bl bc) (.slice bO bL bC) := by rw [hW1]; exact (qcell_step (qcell_new _ (by simp)))
  have qR : QCell W1 (w.heap.size + 1 + 1) false (.slice none 0 0) (.slice none 0 0) := by rw [hW1]; exact (qcell_new _ (by simp))
  have hb : Below w.heap.size w W1 := by rw [hW1]; exact bstep (bstep (belowA w _) (belowA _ _)) (belowA _ _)
  have hsz : w.heap.size + 1 + 1 < W1.heap.size := by rw [hW1]; simp
  replace hA := hA.below hb
  replace hB := hB.below hb
  have HW1 : Hid (W1 = ((w.alloc (.cells #[.bool na, .slice ao al ac, .slice aO aL aC] 27)).alloc (.cells #[.bool nb, .slice bo bl bc, .slice bO bL bC] 27)).alloc (.cells #[.bool false, .slice none 0 0, .slice none 0 0] 27)) := hW1
  clear hW1
  go_enter Tryz.func13, Tryz.ntmps13
  go_wp2_with fail
  rw [← HW1.out]
  clear HW1
  obtain ⟨g, hg⟩ : ∃ g, g = w.heap.size := ⟨_, rfl⟩
  rw [← hg] at qa qb qR hsz ⊢
  have HG : Hid (g = w.heap.size) := hg
  clear hg
  obtain ⟨cqa0, cqa1, cqa2⟩ := qa.cells
  obtain ⟨cqb0, cqb1, cqb2⟩ := qb.cells
  obtain ⟨cqR0, cqR1, cqR2⟩ := qR.cells
  go_wp2_with fail
  clear cqa0 cqa1 cqa2 cqb0 cqb1 cqb2 cqR0 cqR1 cqR2
  have hq := qCmp hA hB
  obtain ⟨c, hc⟩ : ∃ c, c = cmpQ a b := ⟨_, rfl⟩
  have hc0 : ¬ 0 < c := by rw [hc]; have := HC.out; omega
  rw [← hc] at hq
  clear hc
  refine (hq).mono ?_
  rintro e w2 ⟨rfl, b⟩
  clear hq
  replace hA := hA.below b
  replace hB := hB.below b
  replace qa := qa.below b
  replace qb := qb.below b
  replace qR := qR.below b
  replace hb := bstep hb b
  replace hsz := Nat.lt_of_lt_of_le hsz b.size
  clear b
  obtain ⟨cqa0, cqa1, cqa2⟩ := qa.cells
  obtain ⟨cqb0, cqb1, cqb2⟩ := qb.cells
  obtain ⟨cqR0, cqR1, cqR2⟩ := qR.cells
  go_wp2_with fail
  clear cqa0 cqa1 cqa2 cqb0 cqb1 cqb2 cqR0 cqR1 cqR2
  have hq := qSign hA
  obtain ⟨sa, hs⟩ : ∃ s, s = sgnQ a := ⟨_, rfl⟩
  have hsa : ¬ sa ≤ 0 := by rw [hs]; have := H1.out; omega
  rw [← hs] at hq
  clear hs
  refine (hq).mono ?_
  rintro e w3 ⟨rfl, b⟩
  clear hq
  replace hA := hA.below b
  replace hB := hB.below b
  replace qa := qa.below b
  replace qb := qb.below b
  replace qR := qR.below b
  replace hb := bstep hb b
  replace hsz := Nat.lt_of_lt_of_le hsz b.size
  clear b
  obtain ⟨cqa0, cqa1, cqa2⟩ := qa.cells
  obtain ⟨cqb0, cqb1, cqb2⟩ := qb.cells
  obtain ⟨cqR0, cqR1, cqR2⟩ := qR.cells
  go_wp2_with fail
  clear cqa0 cqa1 cqa2 cqb0 cqb1 cqb2 cqR0 cqR1 cqR2
  have hq := qSign hB
  obtain ⟨sb, hs⟩ : ∃ s, s = sgnQ b := ⟨_, rfl⟩
  have hsb : ¬ sb < 0 := by rw [hs]; have := H1.out; omega
  rw [← hs] at hq
  clear hs
  refine (hq).mono ?_
  rintro e w4 ⟨rfl, b⟩
  clear hq
  replace hA := hA.below b
  replace hB := hB.below b
  replace qa := qa.below b
  replace qb := qb.below b
  replace qR := qR.below b
  replace hb := bstep hb b
  replace hsz := Nat.lt_of_lt_of_le hsz b.size
  clear b
  obtain ⟨cqa0, cqa1, cqa2⟩ := qa.cells
  obtain ⟨cqb0, cqb1, cqb2⟩ := qb.cells
  obtain ⟨cqR0, cqR1, cqR2⟩ := qR.cells
  go_wp2_with fail
  clear cqa0 cqa1 cqa2 cqb0 cqb1 cqb2 cqR0 cqR1 cqR2
  have hq := between3 _ _ _ _ a b hA hB HU.out (Nat.le_refl _)
  rw [HZ.out] at hq
  have hszz := hsz
  refine (hq).mono ?_
  rintro e w5 ⟨v, rfl, hv, b⟩
  clear hq
  obtain ⟨m, d, rfl, hm, hd, hap⟩ := hv
  obtain ⟨mo, ml, mc, rfl⟩ := hm.sl
  obtain ⟨mO, mL, mC, rfl⟩ := hd.sl
  replace hA := hA.below b
  replace hB := hB.below b
  replace qa := qa.below b
  replace qb := qb.below b
  replace qR := qR.below b
  replace hb := bstep hb b
  replace hsz := Nat.lt_of_lt_of_le hsz b.size
  clear b
  have qq := qR
  have HE : Hid (REnd w Z (.returned (.agg #[.bool (decide (Z.num < 0)), .slice mo ml mc, .slice mO mL mC])) (((w5.setCell ⟨g + 1 + 1, 0, none⟩ (.bool (decide (Z.num < 0)))).setCell ⟨g + 1 + 1, 1, none⟩ (.slice mo ml mc)).setCell ⟨g + 1 + 1, 2, none⟩ (.slice mO mL mC))) := rat_done rfl (by rw [HG.out]; omega) hm hd hap hszz (hb)
  have HW : Hid (QCell (((w5.setCell ⟨g + 1 + 1, 0, none⟩ (.bool (decide (Z.num < 0)))).setCell ⟨g + 1 + 1, 1, none⟩ (.slice mo ml mc)).setCell ⟨g + 1 + 1, 2, none⟩ (.slice mO mL mC)) (g + 1 + 1) (decide (Z.num < 0)) (.slice mo ml mc) (.slice mO mL mC)) := qq.write _ _ _
  obtain ⟨y0, y1, y2⟩ := qq.cells
  have f0 := qq.thaw 0
  have f1 := qq.thaw 1
  have f2 := qq.thaw 2
  generalize decide (Z.num < 0) = bb at *
  clear qq hap
  clear hb hsz hszz hm hd qa qb qR hA hB
  go_wp2_with fail
  (try simp only [Exit.inBlock, Exit.then])
  exact bodyPost_ret (results_ct (p := 4) (u := 5) rfl _ _ (g + 1 + 1) 27 _ (0, 0) _ rfl HW.out Tryz.underlying27 rfl (by kernel_rfl)) rfl HE.out.t
set_option maxRecDepth 100000 in
set_option maxHeartbeats 6400000 in
theorem rsimp_zero {w : World} {va vb : Value} {a b : Rat} (hA : RQ w va a) (hB : RQ w vb b) (hc : cmpQ a b ≤ 0) (hp : ¬ 0 < a.num) (hr : ¬ b.num < 0) (Z : Rat) (hZ : Z = 0) : Calls Tryz.prog 13 #[va, vb] w fun e w' => RTEnd w Z e w' := by
  obtain ⟨na, ao, al, ac, aO, aL, aC, rfl⟩ := hA.see
  obtain ⟨nb, bo, bl, bc, bO, bL, bC, rfl⟩ := hB.see
  have HC : Hid (cmpQ a b ≤ 0) := hc
  have H1 : Hid (sgnQ a ≤ 0 ∧ 0 ≤ sgnQ b) := ⟨by have := sgn_pos (x := a); omega, by have := sgn_neg (x := b); omega⟩
  have HZ : Hid (Z = 0) := hZ
  clear hc hp hr hZ
  obtain ⟨W1, hW1⟩ : ∃ W1, W1 = ((w.alloc (.cells #[.bool na, .slice ao al ac, .slice aO aL aC] 27)).alloc (.cells #[.bool nb, .slice bo bl bc, .slice bO bL bC] 27)).alloc (.cells #[.bool false, .slice none 0 0, .slice none 0 0] 27) := ⟨_, rfl⟩
  have qa : QCell W1 (w.heap.size) na (.slice ao al ac) (.slice aO aL aC) := by rw [hW1]; exact (qcell_step (qcell_step (qcell_new _ (by simp))))
  have qb : QCell W1 (w.heap.size + 1) nb (.slice bo bl bc) (.slice bO bL bC) := by rw [hW1]; exact (qcell_step (qcell_new _ (by simp)))
  have qR : QCell W1 (w.heap.size + 1 + 1) false (.slice none 0 0) (.slice none 0 0) := by rw [hW1]; exact (qcell_new _ (by simp))
  have hb : Below w.heap.size w W1 := by rw [hW1]; exact bstep (bstep (belowA w _) (belowA _ _)) (belowA _ _)
  have hsz : w.heap.size + 1 + 1 < W1.heap.size := by rw [hW1]; simp
  replace hA := hA.below hb
  replace hB := hB.below hb
  have HW1 : Hid (W1 = ((w.alloc (.cells #[.bool na, .slice ao al ac, .slice aO aL aC] 27)).alloc (.cells #[.bool nb, .slice bo bl bc, .slice bO bL bC] 27)).alloc (.cells #[.bool false, .slice none 0 0, .slice none 0 0] 27)) := hW1
  clear hW1
  go_enter Tryz.func13, Tryz.ntmps13
  go_wp2_with fail
  rw [← HW1.out]
  clear HW1
  obtain ⟨g, hg⟩ : ∃ g, g = w.heap.size := ⟨_, rfl⟩
  rw [← hg] at qa qb qR hsz ⊢
  have HG : Hid (g = w.heap.size) := hg
  clear hg
  obtain ⟨cqa0, cqa1, cqa2⟩ := qa.cells
  obtain ⟨cqb0, cqb1, cqb2⟩ := qb.cells
  obtain ⟨cqR0, cqR1, cqR2⟩ := qR.cells
  go_wp2_with fail
  clear cqa0 cqa1 cqa2 cqb0 cqb1 cqb2 cqR0 cqR1 cqR2
  have hq := qCmp hA hB
  obtain ⟨c, hc⟩ : ∃ c, c = cmpQ a b := ⟨_, rfl⟩
  have hc0 : ¬ 0 < c := by rw [hc]; have := HC.out; omega
  rw [← hc] at hq
  clear hc
  refine (hq).mono ?_
  rintro e w2 ⟨rfl, b⟩
  clear hq
  replace hA := hA.below b
  replace hB := hB.below b
  replace qa := qa.below b
  replace qb := qb.below b
  replace qR := qR.below b
  replace hb := bstep hb b
  replace hsz := Nat.lt_of_lt_of_le hsz b.size
  clear b
  obtain ⟨cqa0, cqa1, cqa2⟩ := qa.cells
  obtain ⟨cqb0, cqb1, cqb2⟩ := qb.cells
  obtain ⟨cqR0, cqR1, cqR2⟩ := qR.cells
  go_wp2_with fail
  clear cqa0 cqa1 cqa2 cqb0 cqb1 cqb2 cqR0 cqR1 cqR2
  have hq := qSign hA
  obtain ⟨sa, hs⟩ : ∃ s, s = sgnQ a := ⟨_, rfl⟩
  have hsa : sa ≤ 0 := by rw [hs]; have := H1.out; omega
  rw [← hs] at hq
  clear hs
  refine (hq).mono ?_
  rintro e w3 ⟨rfl, b⟩
  clear hq
  replace hA := hA.below b
  replace hB := hB.below b
  replace qa := qa.below b
  replace qb := qb.below b
  replace qR := qR.below b
  replace hb := bstep hb b
  replace hsz := Nat.lt_of_lt_of_le hsz b.size
  clear b
  obtain ⟨cqa0, cqa1, cqa2⟩ := qa.cells
  obtain ⟨cqb0, cqb1, cqb2⟩ := qb.cells
  obtain ⟨cqR0, cqR1, cqR2⟩ := qR.cells
  go_wp2_with fail
  clear cqa0 cqa1 cqa2 cqb0 cqb1 cqb2 cqR0 cqR1 cqR2
  have hq := qSign hB
  obtain ⟨sb, hs⟩ : ∃ s, s = sgnQ b := ⟨_, rfl⟩
  have hsb : 0 ≤ sb := by rw [hs]; have := H1.out; omega
  rw [← hs] at hq
  clear hs
  refine (hq).mono ?_
  rintro e w4 ⟨rfl, b⟩
  clear hq
  replace hA := hA.below b
  replace hB := hB.below b
  replace qa := qa.below b
  replace qb := qb.below b
  replace qR := qR.below b
  replace hb := bstep hb b
  replace hsz := Nat.lt_of_lt_of_le hsz b.size
  clear b
  obtain ⟨cqa0, cqa1, cqa2⟩ := qa.cells
  obtain ⟨cqb0, cqb1, cqb2⟩ := qb.cells
  obtain ⟨cqR0, cqR1, cqR2⟩ := qR.cells
  go_wp2_with fail
  clear cqa0 cqa1 cqa2 cqb0 cqb1 cqb2 cqR0 cqR1 cqR2
  have hq := small3 w4
  rw [← HZ.out] at hq
  have hszz := hsz
  refine (hq).mono ?_
  rintro e w5 ⟨v, rfl, hv, b⟩
  clear hq
  obtain ⟨m, d, rfl, hm, hd, hap⟩ := hv
  obtain ⟨mo, ml, mc, rfl⟩ := hm.sl
  obtain ⟨mO, mL, mC, rfl⟩ := hd.sl
  replace hA := hA.below b
  replace hB := hB.below b
  replace qa := qa.below b
  replace qb := qb.below b
  replace qR := qR.below b
  replace hb := bstep hb b
  replace hsz := Nat.lt_of_lt_of_le hsz b.size
  clear b
  have qq := qR
  have HE : Hid (REnd w Z (.returned (.agg #[.bool (decide (Z.num < 0)), .slice mo ml mc, .slice mO mL mC])) (((w5.setCell ⟨g + 1 + 1, 0, none⟩ (.bool (decide (Z.num < 0)))).setCell ⟨g + 1 + 1, 1, none⟩ (.slice mo ml mc)).setCell ⟨g + 1 + 1, 2, none⟩ (.slice mO mL mC))) := rat_done rfl (by rw [HG.out]; omega) hm hd hap hszz (hb)
  have HW : Hid (QCell (((w5.setCell ⟨g + 1 + 1, 0, none⟩ (.bool (decide (Z.num < 0)))).setCell ⟨g + 1 + 1, 1, none⟩ (.slice mo ml mc)).setCell ⟨g + 1 + 1, 2, none⟩ (.slice mO mL mC)) (g + 1 + 1) (decide (Z.num < 0)) (.slice mo ml mc) (.slice mO mL mC)) := qq.write _ _ _
  obtain ⟨y0, y1, y2⟩ := qq.cells
  have f0 := qq.thaw 0
  have f1 := qq.thaw 1
  have f2 := qq.thaw 2
  generalize decide (Z.num < 0) = bb at *
  clear qq hap
  clear hb hsz hszz hm hd qa qb qR hA hB
  go_wp2_with fail
  (try simp only [Exit.inBlock, Exit.then])
  exact bodyPost_ret (results_ct (p := 4) (u := 5) rfl _ _ (g + 1 + 1) 27 _ (0, 0) _ rfl HW.out Tryz.underlying27 rfl (by kernel_rfl)) rfl HE.out.t
theorem RSz.neg9 {x : Rat} {L : Nat} (h : RSz x L) : RSz (-x) L := ⟨by rw [Rat.neg_num]; exact h.num.neg, by rw [Rat.neg_den]; exact h.den⟩
theorem cmpQ_pp9 {x y : Rat} : 0 < cmpQ x y ↔ y.num * x.den < x.num * y.den := by
  unfold cmpQ cmpZ
  split
  · constructor <;> intro h <;> first | omega | (exact absurd h (by decide))
  · split
    · constructor <;> intro h <;> first | omega | (exact absurd h (by decide))
    · constructor <;> intro h <;> first | omega | decide
set_option maxRecDepth 100000 in
set_option maxHeartbeats 6400000 in
theorem rsimp_neg {w : World} {va vb : Value} {a b : Rat} (hA : RQ w va a) (hB : RQ w vb b) (hc : cmpQ a b ≤ 0) (hr : b.num < 0) : Calls Tryz.prog 13 #[va, vb] w fun e w' => RTEnd w (-sQ (-b) (-a)) e w' := by
  obtain ⟨na, ao, al, ac, aO, aL, aC, rfl⟩ := hA.see
  obtain ⟨nb, bo, bl, bc, bO, bL, bC, rfl⟩ := hB.see
  have HC : Hid (cmpQ a b ≤ 0) := hc
  have HU : Hid (UpTo (-b) (-a)) := UpTo.neg (cmpQ_le (by omega)) hr
  have HCN : Hid (cmpQ (-b) (-a) ≤ 0) := by have h := HU.out.le; have h2 := cmpQ_pp9 (x := -b) (y := -a); show _ ≤ _; omega
  have hal : a.num < 0 := by have h := HU.out.pos2; rw [Rat.neg_num] at h; omega
  have H1 : Hid (sgnQ a ≤ 0 ∧ sgnQ b < 0) := ⟨by have := sgn_neg (x := a); omega, sgn_neg.2 hr⟩
  have HS : Hid (RSz (-b) 40 ∧ RSz (-a) 40 ∧ RSz (sQ (-b) (-a)) 40) := ⟨hB.sz.neg9, hA.sz.neg9, HU.out.sz hB.sz.neg9⟩
  obtain ⟨X, hX⟩ : ∃ X, X = sQ (-b) (-a) := ⟨_, rfl⟩
  have HX : Hid (sQ (-b) (-a) = X) := hX.symm
  rw [← hX] at HS ⊢
  obtain ⟨Z, hZ⟩ : ∃ Z, Z = -X := ⟨_, rfl⟩
  rw [← hZ]
  have HZ : Hid (-X = Z) := hZ.symm
  clear hc hr hal hX hZ
  obtain ⟨W1, hW1⟩ : ∃ W1, W1 = ((w.alloc (.cells #[.bool na, .slice ao al ac, .slice aO aL aC] 27)).alloc (.cells #[.bool nb, .slice bo bl bc, .slice bO bL bC] 27)).alloc (.cells #[.bool false, .slice none 0 0, .slice none 0 0] 27) := ⟨_, rfl⟩
  have qa : QCell W1 (w.heap.size) na (.slice ao al ac) (.slice aO aL aC) := by rw [hW1]; exact (qcell_step (qcell_step (qcell_new _ (by simp))))
  have qb : QCell W1 (w.heap.size + 1) nb (.slice bo bl bc) (.slice bO bL bC) := by rw [hW1]; exact (qcell_step (qcell_new _ (by simp)))
  have qR : QCell W1 (w.heap.size + 1 + 1) false (.slice none 0 0) (.slice none 0 0) := by rw [hW1]; exact (qcell_new _ (by simp))
  have hb : Below w.heap.size w W1 := by rw [hW1]; exact bstep (bstep (belowA w _) (belowA _ _)) (belowA _ _)
  have hsz : w.heap.size + 1 + 1 < W1.heap.size := by rw [hW1]; simp
  replace hA := hA.below hb
  replace hB := hB.below hb
  have HW1 : Hid (W1 = ((w.alloc (.cells #[.bool na, .slice ao al ac, .slice aO aL aC] 27)).alloc (.cells #[.bool nb, .slice bo bl bc, .slice bO bL bC] 27)).alloc (.cells #[.bool false, .slice none 0 0, .slice none 0 0] 27)) := hW1
  clear hW1
  go_enter Tryz.func13, Tryz.ntmps13
  go_wp2_with fail
  rw [← HW1.out]
  clear HW1
  obtain ⟨g, hg⟩ : ∃ g, g = w.heap.size := ⟨_, rfl⟩
  rw [← hg] at qa qb qR hsz ⊢
  have HG : Hid (g = w.heap.size) := hg
  clear hg
  obtain ⟨cqa0, cqa1, cqa2⟩ := qa.cells
  obtain ⟨cqb0, cqb1, cqb2⟩ := qb.cells
  obtain ⟨cqR0, cqR1, cqR2⟩ := qR.cells
  go_wp2_with fail
  clear cqa0 cqa1 cqa2 cqb0 cqb1 cqb2 cqR0 cqR1 cqR2
  have hq := qCmp hA hB
  obtain ⟨c, hc⟩ : ∃ c, c = cmpQ a b := ⟨_, rfl⟩
  have hc0 : ¬ 0 < c := by rw [hc]; have := HC.out; omega
  rw [← hc] at hq
  clear hc
  refine (hq).mono ?_
  rintro e w2 ⟨rfl, b⟩
  clear hq
  replace hA := hA.below b
  replace hB := hB.below b
  replace qa := qa.below b
  replace qb := qb.below b
  replace qR := qR.below b
  replace hb := bstep hb b
  replace hsz := Nat.lt_of_lt_of_le hsz b.size
  clear b
  obtain ⟨cqa0, cqa1, cqa2⟩ := qa.cells
  obtain ⟨cqb0, cqb1, cqb2⟩ := qb.cells
  obtain ⟨cqR0, cqR1, cqR2⟩ := qR.cells
  go_wp2_with fail
  clear cqa0 cqa1 cqa2 cqb0 cqb1 cqb2 cqR0 cqR1 cqR2
  have hq := qSign hA
  obtain ⟨sa, hs⟩ : ∃ s, s = sgnQ a := ⟨_, rfl⟩
  have hsa : sa ≤ 0 := by rw [hs]; have := H1.out; omega
  rw [← hs] at hq
  clear hs
  refine (hq).mono ?_
  rintro e w3 ⟨rfl, b⟩
  clear hq
  replace hA := hA.below b
  replace hB := hB.below b
  replace qa := qa.below b
  replace qb := qb.below b
  replace qR := qR.below b
  replace hb := bstep hb b
  replace hsz := Nat.lt_of_lt_of_le hsz b.size
  clear b
  obtain ⟨cqa0, cqa1, cqa2⟩ := qa.cells
  obtain ⟨cqb0, cqb1, cqb2⟩ := qb.cells
  obtain ⟨cqR0, cqR1, cqR2⟩ := qR.cells
  go_wp2_with fail
  clear cqa0 cqa1 cqa2 cqb0 cqb1 cqb2 cqR0 cqR1 cqR2
  have hq := qSign hB
  obtain ⟨sb, hs⟩ : ∃ s, s = sgnQ b := ⟨_, rfl⟩
  have hsb : ¬ 0 ≤ sb := by rw [hs]; have := H1.out; omega
  rw [← hs] at hq
  clear hs
  refine (hq).mono ?_
  rintro e w4 ⟨rfl, b⟩
  clear hq
  replace hA := hA.below b
  replace hB := hB.below b
  replace qa := qa.below b
  replace qb := qb.below b
  replace qR := qR.below b
  replace hb := bstep hb b
  replace hsz := Nat.lt_of_lt_of_le hsz b.size
  clear b
  obtain ⟨cqa0, cqa1, cqa2⟩ := qa.cells
  obtain ⟨cqb0, cqb1, cqb2⟩ := qb.cells
  obtain ⟨cqR0, cqR1, cqR2⟩ := qR.cells
  go_wp2_with fail
  clear cqa0 cqa1 cqa2 cqb0 cqb1 cqb2 cqR0 cqR1 cqR2
  have hq := qSign hB
  obtain ⟨sc, hs⟩ : ∃ s, s = sgnQ b := ⟨_, rfl⟩
  have hsc : sc < 0 := by rw [hs]; have := H1.out; omega
  rw [← hs] at hq
  clear hs
  refine (hq).mono ?_
  rintro e w5 ⟨rfl, b⟩
  clear hq
  replace hA := hA.below b
  replace hB := hB.below b
  replace qa := qa.below b
  replace qb := qb.below b
  replace qR := qR.below b
  replace hb := bstep hb b
  replace hsz := Nat.lt_of_lt_of_le hsz b.size
  clear b
  obtain ⟨cqa0, cqa1, cqa2⟩ := qa.cells
  obtain ⟨cqb0, cqb1, cqb2⟩ := qb.cells
  obtain ⟨cqR0, cqR1, cqR2⟩ := qR.cells
  go_wp2_with fail
  clear cqa0 cqa1 cqa2 cqb0 cqb1 cqb2 cqR0 cqR1 cqR2
  go_cut [6, 7] (fun t6 t7 wx => ∃ v n o l c O L C, t6 = .pointer (some ⟨v, 0, none⟩) ∧ t7 = .int .i64 0 ∧ QCell wx v n (.slice o l c) (.slice O L C) ∧ RQ wx (.agg #[.bool n, .slice o l c, .slice O L C]) X ∧ Below w5.heap.size w5 wx)
  case first =>
    have KEEP : ∀ u, Below w5.heap.size w5 u → L2.AllL u [(0, fun w' => w'.cell? ⟨g + 1, 0, none⟩ = some (.bool nb) ∧ w'.cell? ⟨g + 1, 1, none⟩ = some (.slice bo bl bc) ∧ w'.cell? ⟨g + 1, 2, none⟩ = some (.slice bO bL bC)), (2, fun w' => w'.cell? ⟨g, 0, none⟩ = some (.bool na) ∧ w'.cell? ⟨g, 1, none⟩ = some (.slice ao al ac) ∧ w'.cell? ⟨g, 2, none⟩ = some (.slice aO aL aC))] := fun u B => ⟨(qb.below B).cells, (qa.below B).cells, trivial⟩
    refine L2.region_late [(0, fun w' => w'.cell? ⟨g + 1, 0, none⟩ = some (.bool nb) ∧ w'.cell? ⟨g + 1, 1, none⟩ = some (.slice bo bl bc) ∧ w'.cell? ⟨g + 1, 2, none⟩ = some (.slice bO bL bC)), (2, fun w' => w'.cell? ⟨g, 0, none⟩ = some (.bool na) ∧ w'.cell? ⟨g, 1, none⟩ = some (.slice ao al ac) ∧ w'.cell? ⟨g, 2, none⟩ = some (.slice aO aL aC))] (by kernel_rfl) ?_
    have B0 : Below w5.heap.size w5 w5.drew := below_drew' _
    obtain ⟨w0, hw0⟩ : ∃ u, u = w5.drew := ⟨_, rfl⟩
    rw [← hw0] at B0 ⊢
    clear hw0
    have hHeld := KEEP _ B0
    have khA := hA.below B0
    have khB := hB.below B0
    refine L2.late_take 0 (v := .agg #[.bool nb, .slice bo bl bc, .slice bO bL bC]) rfl (by kernel_rfl) (List.Mem.head _) (by kernel_rfl) (by kernel_rfl) (by kernel_rfl) (by kernel_rfl) (fun _ _ _ h => h) (Or.inl ⟨by rfl, ?_⟩) hHeld ?_
    · (intro u hu; (try dsimp only at hu); go_split_ands; go_simp)
    (try simp only [Act.put, putA, putB, putC])
    refine L2.late_take 2 (v := .agg #[.bool na, .slice ao al ac, .slice aO aL aC]) rfl (by kernel_rfl) (List.Mem.tail _ (List.Mem.head _)) (by kernel_rfl) (by kernel_rfl) (by kernel_rfl) (by kernel_rfl) (fun _ _ _ h => h) (Or.inl ⟨by rfl, ?_⟩) hHeld ?_
    · (intro u hu; (try dsimp only at hu); go_split_ands; go_simp)
    (try simp only [Act.put, putA, putB, putC])
    refine L2.late_two 1 8 (by kernel_rfl) rfl rfl (fun K hK => ?t23) (fun K hK => ?t24)
    case' t23 =>
     go_simp
     refine (qNeg khB).mono ?_
     rintro e w6 ⟨v, rfl, hv9, b6⟩
     clear khB
     have r1 := hv9.rq HS.out.1
     obtain ⟨m, d9, rfl, hm, hd9, hap⟩ := id hv9
     obtain ⟨io, il, ic, rfl⟩ := hm.sl
     obtain ⟨iO, iL, iC, rfl⟩ := hd9.sl
     clear hm hd9 hap
     clear hv9
     generalize decide ((-b).num < 0) = ni at *
     replace khA := khA.below b6
     have B6 : Below w5.heap.size w5 w6 := bstep B0 b6
     clear b6
     replace hHeld := KEEP _ B6
     go_wp2_with fail
     refine hK.out _ _ (L2.AllL.kept hHeld) ?_
     clear hK K
     (try simp only [Act.put, putA, putB, putC])
     refine L2.late_two 3 8 (by kernel_rfl) rfl rfl (fun K hK => ?t17) (fun K hK => ?t18)
     case' t17 =>
      go_simp
      refine (qNeg khA).mono ?_
      rintro e w7 ⟨v, rfl, hv9, b7⟩
      clear khA
      have r2 := hv9.rq HS.out.2.1
      obtain ⟨m, d9, rfl, hm, hd9, hap⟩ := id hv9
      obtain ⟨jo, jl, jc, rfl⟩ := hm.sl
      obtain ⟨jO, jL, jC, rfl⟩ := hd9.sl
      clear hm hd9 hap
      clear hv9
      generalize decide ((-a).num < 0) = nj at *
      replace r1 := r1.below b7
      have B7 : Below w5.heap.size w5 w7 := bstep B6 b7
      clear b7
      replace hHeld := KEEP _ B7
      go_wp2_with fail
      refine hK.out _ _ (L2.AllL.kept hHeld) ?_
      clear hK K
      (try simp only [Act.put, putA, putB, putC])
      refine L2.late_two 4 8 (by kernel_rfl) rfl rfl (fun K hK => ?t12) (fun K hK => ?t13)
      case' t12 =>
       go_simp
       have hq := rsimp_pos r1 r2 HCN.out HU.out.pos
       rw [HX.out] at hq
       refine hq.mono ?_
       rintro e w8 ⟨v, rfl, hv9, b8⟩
       clear hq r1 r2
       have rT := hv9.rq HS.out.2.2
       obtain ⟨m, d9, rfl, hm, hd9, hap⟩ := id hv9
       obtain ⟨ko, kl, kc, rfl⟩ := hm.sl
       obtain ⟨kO, kL, kC, rfl⟩ := hd9.sl
       clear hm hd9 hap
       clear hv9
       generalize decide (X.num < 0) = nk at *
       have B8 : Below w5.heap.size w5 w8 := bstep B7 b8
       clear b8
       replace hHeld := KEEP _ B8
       go_wp2_with fail
       refine hK.out _ _ (L2.AllL.kept hHeld) ?_
       clear hK K
       (try simp only [Act.put, putA, putB, putC])
       refine L2.late_free 5 (v := .tuple #[.agg #[.bool nk, .slice ko kl kc, .slice kO kL kC], .int .i64 0]) rfl (by kernel_rfl) (by kernel_rfl) (by kernel_rfl) (by kernel_rfl) (by kernel_rfl) (by kernel_rfl) (fun _ _ _ h => h) (Or.inl ⟨by rfl, ?_⟩) hHeld ?_
       · (intro u _; go_simp)
       (try simp only [Act.put, putA, putB, putC])
       refine L2.late_free 6 (v := .agg #[.bool nk, .slice ko kl kc, .slice kO kL kC]) rfl (by kernel_rfl) (by kernel_rfl) (by kernel_rfl) (by kernel_rfl) (by kernel_rfl) (by kernel_rfl) (fun _ _ _ h => h) (Or.inl ⟨by rfl, ?_⟩) hHeld ?_
       · (intro u _; go_simp)
       (try simp only [Act.put, putA, putB, putC])
       refine L2.late_free 7 (v := .int .i64 0) rfl (by kernel_rfl) (by kernel_rfl) (by kernel_rfl) (by kernel_rfl) (by kernel_rfl) (by kernel_rfl) (fun _ _ _ h => h) (Or.inl ⟨by rfl, ?_⟩) hHeld ?_
       · (intro u _; go_simp)
       (try simp only [Act.put, putA, putB, putC])
       refine L2.late_step 8 (by kernel_rfl) rfl (fun K hK => ?_)
       go_simp
       obtain ⟨w9, vx, hw, hv, pvx, b9, B9⟩ := new_pr B8
       rw [hw, hv]
       clear hw hv
       replace rT := rT.below b9
       clear b9
       replace hHeld := KEEP _ B9
       refine hK.out _ _ (L2.AllL.kept hHeld) ?_
       clear hK K
       (try simp only [Act.put, putA, putB, putC])
       have Bz := B9
       obtain ⟨wl, rfl⟩ : ∃ u, u = w9 := ⟨_, rfl⟩
      case' t13 =>
       go_simp
       obtain ⟨w10, vx, hw, hv, pvx, b10, B10⟩ := new_pr B7
       rw [hw, hv]
       clear hw hv
       replace r1 := r1.below b10
       replace r2 := r2.below b10
       clear b10
       replace hHeld := KEEP _ B10
       refine hK.out _ _ (L2.AllL.kept hHeld) ?_
       clear hK K
       (try simp only [Act.put, putA, putB, putC])
       refine L2.late_step 4 (by kernel_rfl) rfl (fun K hK => ?_)
       go_simp
       have hq := rsimp_pos r1 r2 HCN.out HU.out.pos
       rw [HX.out] at hq
       refine hq.mono ?_
       rintro e w11 ⟨v, rfl, hv9, b11⟩
       clear hq r1 r2
       have rT := hv9.rq HS.out.2.2
       obtain ⟨m, d9, rfl, hm, hd9, hap⟩ := id hv9
       obtain ⟨ko, kl, kc, rfl⟩ := hm.sl
       obtain ⟨kO, kL, kC, rfl⟩ := hd9.sl
       clear hm hd9 hap
       clear hv9
       generalize decide (X.num < 0) = nk at *
       replace pvx := pvx.below b11
       have B11 : Below w5.heap.size w5 w11 := bstep B10 b11
       clear b11
       replace hHeld := KEEP _ B11
       go_wp2_with fail
       refine hK.out _ _ (L2.AllL.kept hHeld) ?_
       clear hK K
       (try simp only [Act.put, putA, putB, putC])
       refine L2.late_free 5 (v := .tuple #[.agg #[.bool nk, .slice ko kl kc, .slice kO kL kC], .int .i64 0]) rfl (by kernel_rfl) (by kernel_rfl) (by kernel_rfl) (by kernel_rfl) (by kernel_rfl) (by kernel_rfl) (fun _ _ _ h => h) (Or.inl ⟨by rfl, ?_⟩) hHeld ?_
       · (intro u _; go_simp)
       (try simp only [Act.put, putA, putB, putC])
       refine L2.late_free 6 (v := .agg #[.bool nk, .slice ko kl kc, .slice kO kL kC]) rfl (by kernel_rfl) (by kernel_rfl) (by kernel_rfl) (by kernel_rfl) (by kernel_rfl) (by kernel_rfl) (fun _ _ _ h => h) (Or.inl ⟨by rfl, ?_⟩) hHeld ?_
       · (intro u _; go_simp)
       (try simp only [Act.put, putA, putB, putC])
       refine L2.late_free 7 (v := .int .i64 0) rfl (by kernel_rfl) (by kernel_rfl) (by kernel_rfl) (by kernel_rfl) (by kernel_rfl) (by kernel_rfl) (fun _ _ _ h => h) (Or.inl ⟨by rfl, ?_⟩) hHeld ?_
       · (intro u _; go_simp)
       (try simp only [Act.put, putA, putB, putC])
       have Bz := B11
       obtain ⟨wl, rfl⟩ : ∃ u, u = w11 := ⟨_, rfl⟩
     case' t18 =>
      go_simp
      obtain ⟨w14, vx, hw, hv, pvx, b14, B14⟩ := new_pr B6
      rw [hw, hv]
      clear hw hv
      replace khA := khA.below b14
      replace r1 := r1.below b14
      clear b14
      replace hHeld := KEEP _ B14
      refine hK.out _ _ (L2.AllL.kept hHeld) ?_
      clear hK K
      (try simp only [Act.put, putA, putB, putC])
      refine L2.late_step 3 (by kernel_rfl) rfl (fun K hK => ?_)
      go_simp
      refine (qNeg khA).mono ?_
      rintro e w15 ⟨v, rfl, hv9, b15⟩
      clear khA
      have r2 := hv9.rq HS.out.2.1
      obtain ⟨m, d9, rfl, hm, hd9, hap⟩ := id hv9
      obtain ⟨jo, jl, jc, rfl⟩ := hm.sl
      obtain ⟨jO, jL, jC, rfl⟩ := hd9.sl
      clear hm hd9 hap
      clear hv9
      generalize decide ((-a).num < 0) = nj at *
      replace r1 := r1.below b15
      replace pvx := pvx.below b15
      have B15 : Below w5.heap.size w5 w15 := bstep B14 b15
      clear b15
      replace hHeld := KEEP _ B15
      go_wp2_with fail
      refine hK.out _ _ (L2.AllL.kept hHeld) ?_
      clear hK K
      (try simp only [Act.put, putA, putB, putC])
      refine L2.late_step 4 (by kernel_rfl) rfl (fun K hK => ?_)
      go_simp
      have hq := rsimp_pos r1 r2 HCN.out HU.out.pos
      rw [HX.out] at hq
      refine hq.mono ?_
      rintro e w16 ⟨v, rfl, hv9, b16⟩
      clear hq r1 r2
      have rT := hv9.rq HS.out.2.2
      obtain ⟨m, d9, rfl, hm, hd9, hap⟩ := id hv9
      obtain ⟨ko, kl, kc, rfl⟩ := hm.sl
      obtain ⟨kO, kL, kC, rfl⟩ := hd9.sl
      clear hm hd9 hap
      clear hv9
      generalize decide (X.num < 0) = nk at *
      replace pvx := pvx.below b16
      have B16 : Below w5.heap.size w5 w16 := bstep B15 b16
      clear b16
      replace hHeld := KEEP _ B16
      go_wp2_with fail
      refine hK.out _ _ (L2.AllL.kept hHeld) ?_
      clear hK K
      (try simp only [Act.put, putA, putB, putC])
      refine L2.late_free 5 (v := .tuple #[.agg #[.bool nk, .slice ko kl kc, .slice kO kL kC], .int .i64 0]) rfl (by kernel_rfl) (by kernel_rfl) (by kernel_rfl) (by kernel_rfl) (by kernel_rfl) (by kernel_rfl) (fun _ _ _ h => h) (Or.inl ⟨by rfl, ?_⟩) hHeld ?_
      · (intro u _; go_simp)
      (try simp only [Act.put, putA, putB, putC])
      refine L2.late_free 6 (v := .agg #[.bool nk, .slice ko kl kc, .slice kO kL kC]) rfl (by kernel_rfl) (by kernel_rfl) (by kernel_rfl) (by kernel_rfl) (by kernel_rfl) (by kernel_rfl) (fun _ _ _ h => h) (Or.inl ⟨by rfl, ?_⟩) hHeld ?_
      · (intro u _; go_simp)
      (try simp only [Act.put, putA, putB, putC])
      refine L2.late_free 7 (v := .int .i64 0) rfl (by kernel_rfl) (by kernel_rfl) (by kernel_rfl) (by kernel_rfl) (by kernel_rfl) (by kernel_rfl) (fun _ _ _ h => h) (Or.inl ⟨by rfl, ?_⟩) hHeld ?_
      · (intro u _; go_simp)
      (try simp only [Act.put, putA, putB, putC])
      have Bz := B16
      obtain ⟨wl, rfl⟩ : ∃ u, u = w16 := ⟨_, rfl⟩
    case' t24 =>
     go_simp
     obtain ⟨w19, vx, hw, hv, pvx, b19, B19⟩ := new_pr B0
     rw [hw, hv]
     clear hw hv
     replace khA := khA.below b19
     replace khB := khB.below b19
     clear b19
     replace hHeld := KEEP _ B19
     refine hK.out _ _ (L2.AllL.kept hHeld) ?_
     clear hK K
     (try simp only [Act.put, putA, putB, putC])
     refine L2.late_step 1 (by kernel_rfl) rfl (fun K hK => ?_)
     go_simp
     refine (qNeg khB).mono ?_
     rintro e w20 ⟨v, rfl, hv9, b20⟩
     clear khB
     have r1 := hv9.rq HS.out.1
     obtain ⟨m, d9, rfl, hm, hd9, hap⟩ := id hv9
     obtain ⟨io, il, ic, rfl⟩ := hm.sl
     obtain ⟨iO, iL, iC, rfl⟩ := hd9.sl
     clear hm hd9 hap
     clear hv9
     generalize decide ((-b).num < 0) = ni at *
     replace khA := khA.below b20
     replace pvx := pvx.below b20
     have B20 : Below w5.heap.size w5 w20 := bstep B19 b20
     clear b20
     replace hHeld := KEEP _ B20
     go_wp2_with fail
     refine hK.out _ _ (L2.AllL.kept hHeld) ?_
     clear hK K
     (try simp only [Act.put, putA, putB, putC])
     refine L2.late_step 3 (by kernel_rfl) rfl (fun K hK => ?_)
     go_simp
     refine (qNeg khA).mono ?_
     rintro e w21 ⟨v, rfl, hv9, b21⟩
     clear khA
     have r2 := hv9.rq HS.out.2.1
     obtain ⟨m, d9, rfl, hm, hd9, hap⟩ := id hv9
     obtain ⟨jo, jl, jc, rfl⟩ := hm.sl
     obtain ⟨jO, jL, jC, rfl⟩ := hd9.sl
     clear hm hd9 hap
     clear hv9
     generalize decide ((-a).num < 0) = nj at *
     replace r1 := r1.below b21
     replace pvx := pvx.below b21
     have B21 : Below w5.heap.size w5 w21 := bstep B20 b21
     clear b21
     replace hHeld := KEEP _ B21
     go_wp2_with fail
     refine hK.out _ _ (L2.AllL.kept hHeld) ?_
     clear hK K
     (try simp only [Act.put, putA, putB, putC])
     refine L2.late_step 4 (by kernel_rfl) rfl (fun K hK => ?_)
     go_simp
     have hq := rsimp_pos r1 r2 HCN.out HU.out.pos
     rw [HX.out] at hq
     refine hq.mono ?_
     rintro e w22 ⟨v, rfl, hv9, b22⟩
     clear hq r1 r2
     have rT := hv9.rq HS.out.2.2
     obtain ⟨m, d9, rfl, hm, hd9, hap⟩ := id hv9
     obtain ⟨ko, kl, kc, rfl⟩ := hm.sl
     obtain ⟨kO, kL, kC, rfl⟩ := hd9.sl
     clear hm hd9 hap
     clear hv9
     generalize decide (X.num < 0) = nk at *
     replace pvx := pvx.below b22
     have B22 : Below w5.heap.size w5 w22 := bstep B21 b22
     clear b22
     replace hHeld := KEEP _ B22
     go_wp2_with fail
     refine hK.out _ _ (L2.AllL.kept hHeld) ?_
     clear hK K
     (try simp only [Act.put, putA, putB, putC])
     refine L2.late_free 5 (v := .tuple #[.agg #[.bool nk, .slice ko kl kc, .slice kO kL kC], .int .i64 0]) rfl (by kernel_rfl) (by kernel_rfl) (by kernel_rfl) (by kernel_rfl) (by kernel_rfl) (by kernel_rfl) (fun _ _ _ h => h) (Or.inl ⟨by rfl, ?_⟩) hHeld ?_
     · (intro u _; go_simp)
     (try simp only [Act.put, putA, putB, putC])
     refine L2.late_free 6 (v := .agg #[.bool nk, .slice ko kl kc, .slice kO kL kC]) rfl (by kernel_rfl) (by kernel_rfl) (by kernel_rfl) (by kernel_rfl) (by kernel_rfl) (by kernel_rfl) (fun _ _ _ h => h) (Or.inl ⟨by rfl, ?_⟩) hHeld ?_
     · (intro u _; go_simp)
     (try simp only [Act.put, putA, putB, putC])
     refine L2.late_free 7 (v := .int .i64 0) rfl (by kernel_rfl) (by kernel_rfl) (by kernel_rfl) (by kernel_rfl) (by kernel_rfl) (by kernel_rfl) (fun _ _ _ h => h) (Or.inl ⟨by rfl, ?_⟩) hHeld ?_
     · (intro u _; go_simp)
     (try simp only [Act.put, putA, putB, putC])
     have Bz := B22
     obtain ⟨wl, rfl⟩ : ∃ u, u = w22 := ⟨_, rfl⟩
    all_goals
      have HPQ : Hid _ := pr_end pvx rT Bz
      obtain ⟨y0, y1, y2⟩ := pvx.c.cells
      have f0 := pvx.c.thaw 0
      have f1 := pvx.c.thaw 1
      have f2 := pvx.c.thaw 2
      clear pvx rT Bz KEEP
      refine L2.late_step 9 (by kernel_rfl) rfl (fun K hK => ?_)
      go_simp
      refine hK.out _ _ ⟨kpt 1, kpt 3, trivial⟩ ?_
      clear hK K
      (try simp only [Act.put, putA, putB, putC])
      refine L2.late_step 10 (by kernel_rfl) rfl (fun K hK => ?_)
      go_simp
      refine hK.out _ _ ⟨kpt 1, kpt 3, trivial⟩ ?_
      clear hK K
      (try simp only [Act.put, putA, putB, putC])
      refine L2.late_done (by kernel_rfl) ?_ _
      clear hHeld y0 y1 y2 f0 f1 f2
      go_wp2_with fail
      go_meet
      exact ⟨_, _, _, _, _, _, _, _, rfl, rfl, HPQ.out⟩
  case rest =>
    obtain ⟨vx, nx, xo, xl, xc, xO, xL, xC, rfl, rfl, qx, rx, b⟩ := hcut
    replace hA := hA.below b
    replace hB := hB.below b
    replace qa := qa.below b
    replace qb := qb.below b
    replace qR := qR.below b
    replace hb := bstep hb b
    replace hsz := Nat.lt_of_lt_of_le hsz b.size
    clear b
    obtain ⟨cqa0, cqa1, cqa2⟩ := qa.cells
    obtain ⟨cqb0, cqb1, cqb2⟩ := qb.cells
    obtain ⟨cqR0, cqR1, cqR2⟩ := qR.cells
    obtain ⟨cqx0, cqx1, cqx2⟩ := qx.cells
    go_wp2_with fail
    clear cqa0 cqa1 cqa2 cqb0 cqb1 cqb2 cqR0 cqR1 cqR2 cqx0 cqx1 cqx2
    have hq := qNeg rx
    rw [HZ.out] at hq
    have hszz := hsz
    refine (hq).mono ?_
    rintro e w125 ⟨v, rfl, hv, b⟩
    clear hq
    obtain ⟨m, d, rfl, hm, hd, hap⟩ := hv
    obtain ⟨mo, ml, mc, rfl⟩ := hm.sl
    obtain ⟨mO, mL, mC, rfl⟩ := hd.sl
    replace hA := hA.below b
    replace hB := hB.below b
    replace rx := rx.below b
    replace qa := qa.below b
    replace qb := qb.below b
    replace qR := qR.below b
    replace qx := qx.below b
    replace hb := bstep hb b
    replace hsz := Nat.lt_of_lt_of_le hsz b.size
    clear b
    have qq := qR
    have HE : Hid (REnd w Z (.returned (.agg #[.bool (decide (Z.num < 0)), .slice mo ml mc, .slice mO mL mC])) (((w125.setCell ⟨g + 1 + 1, 0, none⟩ (.bool (decide (Z.num < 0)))).setCell ⟨g + 1 + 1, 1, none⟩ (.slice mo ml mc)).setCell ⟨g + 1 + 1, 2, none⟩ (.slice mO mL mC))) := rat_done rfl (by rw [HG.out]; omega) hm hd hap hszz (hb)
    have HW : Hid (QCell (((w125.setCell ⟨g + 1 + 1, 0, none⟩ (.bool (decide (Z.num < 0)))).setCell ⟨g + 1 + 1, 1, none⟩ (.slice mo ml mc)).setCell ⟨g + 1 + 1, 2, none⟩ (.slice mO mL mC)) (g + 1 + 1) (decide (Z.num < 0)) (.slice mo ml mc) (.slice mO mL mC)) := qq.write _ _ _
    obtain ⟨y0, y1, y2⟩ := qq.cells
    have f0 := qq.thaw 0
    have f1 := qq.thaw 1
    have f2 := qq.thaw 2
    generalize decide (Z.num < 0) = bb at *
    clear qq hap
    clear hb hsz hszz hm hd qa qb qR qx hA hB rx
    go_wp2_with fail
    (try simp only [Exit.inBlock, Exit.then])
    exact bodyPost_ret (results_ct (p := 4) (u := 5) rfl _ _ (g + 1 + 1) 27 _ (0, 0) _ rfl HW.out Tryz.underlying27 rfl (by kernel_rfl)) rfl HE.out.t
theorem rsimplest {w : World} {va vb : Value} {a b : Rat} (hA : RQ w va a) (hB : RQ w vb b) (hc : cmpQ a b ≤ 0) : Calls Tryz.prog 13 #[va, vb] w fun e w' => RTEnd w (spQ a b) e w' := by
  unfold spQ
  split
  · rename_i hp
    exact rsimp_pos hA hB hc hp
  · rename_i hp
    split
    · rename_i hr
      exact rsimp_neg hA hB hc hr
    · rename_i hr
      exact rsimp_zero hA hB hc hp hr 0 rfl
end Go.Proofs.YtfnafgjnimfmjaaGreatDoor
