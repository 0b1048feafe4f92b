/-
  Proved here: slopes of package ring: Zero, One, Add; powers of slopes through the interface.
-/
import Derived.Test.YtaafijifiiiblaaGreatRingD
import Derived.Deep.LoopGhost
namespace Go.Proofs.YtaafijifiiiblaaGreat
open Go.RowKit
set_option maxRecDepth 100000 in
set_option maxHeartbeats 6400000 in
theorem slopesZero (w : World) : Calls Tryz.prog 36 #[.agg #[]] w fun e w' => SlEnd w 0 0 e w' := by
  obtain ⟨W1, hW1⟩ : ∃ W1, W1 = (w.alloc (.cells #[] 45)).alloc (.cells #[.bool false, .slice none 0 0, .slice none 0 0, .bool false, .slice none 0 0, .slice none 0 0] 43) := ⟨_, rfl⟩
  have qR : SlC W1 (w.heap.size + 1) false (.slice none 0 0) (.slice none 0 0) false (.slice none 0 0) (.slice none 0 0) := by rw [hW1]; exact slc_new _ (by simp)
  have bw : Below w.heap.size w W1 := by rw [hW1]; exact bstep (belowA w _) (belowA _ _)
  have zw : w.heap.size + 1 + 1 ≤ W1.heap.size := by rw [hW1]; simp
  obtain ⟨g, hg⟩ : ∃ g, g = w.heap.size := ⟨_, rfl⟩
  rw [← hg] at qR bw zw
  have HW1 : Hid (W1 = (w.alloc (.cells #[] 45)).alloc (.cells #[.bool false, .slice none 0 0, .slice none 0 0, .bool false, .slice none 0 0, .slice none 0 0] 43)) := hW1
  have HG : Hid (g = w.heap.size) := hg
  clear hW1 hg
  have H_qR : Hid (SlC W1 (g + 1) false (.slice none 0 0) (.slice none 0 0) false (.slice none 0 0) (.slice none 0 0)) := qR
  have H_bw : Hid (Below g w W1) := bw
  have H_zw : Hid (g + 1 + 1 ≤ W1.heap.size) := zw
  clear qR bw zw
  go_enter Tryz.func36, Tryz.ntmps36
  go_upto_region 1 with fail
  rw [← HW1.out, ← HG.out]
  clear HW1
  have qR := H_qR.out
  have bw := H_bw.out
  have zw := H_zw.out
  clear H_qR H_bw H_zw
  have CC : Hid _ := ratsZero W1
  have H_qR : Hid (SlC W1 (g + 1) false (.slice none 0 0) (.slice none 0 0) false (.slice none 0 0) (.slice none 0 0)) := qR
  have H_bw : Hid (Below g w W1) := bw
  have H_zw : Hid (g + 1 + 1 ≤ W1.heap.size) := zw
  clear qR bw zw
  go_wp2_with fail
  refine Calls.mono CC.out ?_
  rintro e x1 ⟨v, rfl, hp, b1⟩
  clear CC 
  have qR := H_qR.out
  have bw := H_bw.out
  have zw := H_zw.out
  clear H_qR H_bw H_zw
  replace hp := hp.rehome (B' := g + 1 + 1) zw
  replace qR := qR.below b1
  replace bw := bw.trans (b1.mono (by omega))
  replace zw := Nat.le_trans zw b1.size
  clear b1
  obtain ⟨np, po, pl, pc, pO, pL, pC, rfl⟩ := hp.seeV
  have CC : Hid _ := ratsZero x1
  have H_qR : Hid (SlC x1 (g + 1) false (.slice none 0 0) (.slice none 0 0) false (.slice none 0 0) (.slice none 0 0)) := qR
  have H_hp : Hid (ROwn (g + 1 + 1) x1 (.agg #[.bool np, .slice po pl pc, .slice pO pL pC]) (0)) := hp
  have H_bw : Hid (Below g w x1) := bw
  have H_zw : Hid (g + 1 + 1 ≤ x1.heap.size) := zw
  clear qR hp bw zw
  go_wp2_with fail
  refine Calls.mono CC.out ?_
  rintro e x2 ⟨v, rfl, hq, b2⟩
  clear CC 
  have qR := H_qR.out
  have hp := H_hp.out
  have bw := H_bw.out
  have zw := H_zw.out
  clear H_qR H_hp H_bw H_zw
  replace hq := hq.rehome (B' := g + 1 + 1) zw
  replace qR := qR.below b2
  replace hp := hp.below b2
  replace bw := bw.trans (b2.mono (by omega))
  replace zw := Nat.le_trans zw b2.size
  clear b2
  obtain ⟨nq, qo, ql, qc, qO, qL, qC, rfl⟩ := hq.seeV
  have HE : Hid (SlEnd w 0 0 (.returned (.agg #[.bool np, .slice po pl pc, .slice pO pL pC, .bool nq, .slice qo ql qc, .slice qO qL qC])) ((((((x2.setCell ⟨g + 1, 0, none⟩ (.bool np)).setCell ⟨g + 1, 1, none⟩ (.slice po pl pc)).setCell ⟨g + 1, 2, none⟩ (.slice pO pL pC)).setCell ⟨g + 1, 3, none⟩ (.bool nq)).setCell ⟨g + 1, 4, none⟩ (.slice qo ql qc)).setCell ⟨g + 1, 5, none⟩ (.slice qO qL qC))) := ⟨_, _, _, _, _, _, _, _, _, _, _, _, _, _, rfl, (by rw [← HG.out]; exact ((((((hp.one (by omega) 0 _).one (by omega) 1 _).one (by omega) 2 _).one (by omega) 3 _).one (by omega) 4 _).one (by omega) 5 _).rehome (by omega)), (by rw [← HG.out]; exact ((((((hq.one (by omega) 0 _).one (by omega) 1 _).one (by omega) 2 _).one (by omega) 3 _).one (by omega) 4 _).one (by omega) 5 _).rehome (by omega)), (by rw [← HG.out]; exact ((((((bw).setCell (p := ⟨g + 1, 0, none⟩) (by show g ≤ g + 1; omega) _).setCell (p := ⟨g + 1, 1, none⟩) (by show g ≤ g + 1; omega) _).setCell (p := ⟨g + 1, 2, none⟩) (by show g ≤ g + 1; omega) _).setCell (p := ⟨g + 1, 3, none⟩) (by show g ≤ g + 1; omega) _).setCell (p := ⟨g + 1, 4, none⟩) (by show g ≤ g + 1; omega) _).setCell (p := ⟨g + 1, 5, none⟩) (by show g ≤ g + 1; omega) _)⟩
  have HW : Hid (SlC ((((((x2.setCell ⟨g + 1, 0, none⟩ (.bool np)).setCell ⟨g + 1, 1, none⟩ (.slice po pl pc)).setCell ⟨g + 1, 2, none⟩ (.slice pO pL pC)).setCell ⟨g + 1, 3, none⟩ (.bool nq)).setCell ⟨g + 1, 4, none⟩ (.slice qo ql qc)).setCell ⟨g + 1, 5, none⟩ (.slice qO qL qC)) (g + 1) np (.slice po pl pc) (.slice pO pL pC) nq (.slice qo ql qc) (.slice qO qL qC)) := qR.write _ _ _ _ _ _
  obtain ⟨y0, y1, y2, y3, y4, y5⟩ := qR.cells
  have f0 := qR.thaw 0
  have f1 := qR.thaw 1
  have f2 := qR.thaw 2
  have f3 := qR.thaw 3
  have f4 := qR.thaw 4
  have f5 := qR.thaw 5
  clear qR hp hq bw zw
  go_wp2_with fail
  (try simp only [Exit.inBlock, Exit.then])
  exact bodyPost_ret (results_cell_row rfl _ _ (g + 1) 43 _ (0, 0) _ rfl HW.out Tryz.underlying43 rfl (by kernel_rfl)) rfl HE.out
set_option maxRecDepth 100000 in
set_option maxHeartbeats 6400000 in
theorem slopesOne (w : World) : Calls Tryz.prog 37 #[.agg #[]] w fun e w' => SlEnd w 1 0 e w' := by
  obtain ⟨W1, hW1⟩ : ∃ W1, W1 = (w.alloc (.cells #[] 45)).alloc (.cells #[.bool false, .slice none 0 0, .slice none 0 0, .bool false, .slice none 0 0, .slice none 0 0] 43) := ⟨_, rfl⟩
  have qR : SlC W1 (w.heap.size + 1) false (.slice none 0 0) (.slice none 0 0) false (.slice none 0 0) (.slice none 0 0) := by rw [hW1]; exact slc_new _ (by simp)
  have bw : Below w.heap.size w W1 := by rw [hW1]; exact bstep (belowA w _) (belowA _ _)
  have zw : w.heap.size + 1 + 1 ≤ W1.heap.size := by rw [hW1]; simp
  obtain ⟨g, hg⟩ : ∃ g, g = w.heap.size := ⟨_, rfl⟩
  rw [← hg] at qR bw zw
  have HW1 : Hid (W1 = (w.alloc (.cells #[] 45)).alloc (.cells #[.bool false, .slice none 0 0, .slice none 0 0, .bool false, .slice none 0 0, .slice none 0 0] 43)) := hW1
  have HG : Hid (g = w.heap.size) := hg
  clear hW1 hg
  have H_qR : Hid (SlC W1 (g + 1) false (.slice none 0 0) (.slice none 0 0) false (.slice none 0 0) (.slice none 0 0)) := qR
  have H_bw : Hid (Below g w W1) := bw
  have H_zw : Hid (g + 1 + 1 ≤ W1.heap.size) := zw
  clear qR bw zw
  go_enter Tryz.func37, Tryz.ntmps37
  go_upto_region 1 with fail
  rw [← HW1.out, ← HG.out]
  clear HW1
  have qR := H_qR.out
  have bw := H_bw.out
  have zw := H_zw.out
  clear H_qR H_bw H_zw
  have CC : Hid _ := ratsOne W1
  have H_qR : Hid (SlC W1 (g + 1) false (.slice none 0 0) (.slice none 0 0) false (.slice none 0 0) (.slice none 0 0)) := qR
  have H_bw : Hid (Below g w W1) := bw
  have H_zw : Hid (g + 1 + 1 ≤ W1.heap.size) := zw
  clear qR bw zw
  go_wp2_with fail
  refine Calls.mono CC.out ?_
  rintro e x1 ⟨v, rfl, hp, b1⟩
  clear CC 
  have qR := H_qR.out
  have bw := H_bw.out
  have zw := H_zw.out
  clear H_qR H_bw H_zw
  replace hp := hp.rehome (B' := g + 1 + 1) zw
  replace qR := qR.below b1
  replace bw := bw.trans (b1.mono (by omega))
  replace zw := Nat.le_trans zw b1.size
  clear b1
  obtain ⟨np, po, pl, pc, pO, pL, pC, rfl⟩ := hp.seeV
  have CC : Hid _ := ratsZero x1
  have H_qR : Hid (SlC x1 (g + 1) false (.slice none 0 0) (.slice none 0 0) false (.slice none 0 0) (.slice none 0 0)) := qR
  have H_hp : Hid (ROwn (g + 1 + 1) x1 (.agg #[.bool np, .slice po pl pc, .slice pO pL pC]) (1)) := hp
  have H_bw : Hid (Below g w x1) := bw
  have H_zw : Hid (g + 1 + 1 ≤ x1.heap.size) := zw
  clear qR hp bw zw
  go_wp2_with fail
  refine Calls.mono CC.out ?_
  rintro e x2 ⟨v, rfl, hq, b2⟩
  clear CC 
  have qR := H_qR.out
  have hp := H_hp.out
  have bw := H_bw.out
  have zw := H_zw.out
  clear H_qR H_hp H_bw H_zw
  replace hq := hq.rehome (B' := g + 1 + 1) zw
  replace qR := qR.below b2
  replace hp := hp.below b2
  replace bw := bw.trans (b2.mono (by omega))
  replace zw := Nat.le_trans zw b2.size
  clear b2
  obtain ⟨nq, qo, ql, qc, qO, qL, qC, rfl⟩ := hq.seeV
  have HE : Hid (SlEnd w 1 0 (.returned (.agg #[.bool np, .slice po pl pc, .slice pO pL pC, .bool nq, .slice qo ql qc, .slice qO qL qC])) ((((((x2.setCell ⟨g + 1, 0, none⟩ (.bool np)).setCell ⟨g + 1, 1, none⟩ (.slice po pl pc)).setCell ⟨g + 1, 2, none⟩ (.slice pO pL pC)).setCell ⟨g + 1, 3, none⟩ (.bool nq)).setCell ⟨g + 1, 4, none⟩ (.slice qo ql qc)).setCell ⟨g + 1, 5, none⟩ (.slice qO qL qC))) := ⟨_, _, _, _, _, _, _, _, _, _, _, _, _, _, rfl, (by rw [← HG.out]; exact ((((((hp.one (by omega) 0 _).one (by omega) 1 _).one (by omega) 2 _).one (by omega) 3 _).one (by omega) 4 _).one (by omega) 5 _).rehome (by omega)), (by rw [← HG.out]; exact ((((((hq.one (by omega) 0 _).one (by omega) 1 _).one (by omega) 2 _).one (by omega) 3 _).one (by omega) 4 _).one (by omega) 5 _).rehome (by omega)), (by rw [← HG.out]; exact ((((((bw).setCell (p := ⟨g + 1, 0, none⟩) (by show g ≤ g + 1; omega) _).setCell (p := ⟨g + 1, 1, none⟩) (by show g ≤ g + 1; omega) _).setCell (p := ⟨g + 1, 2, none⟩) (by show g ≤ g + 1; omega) _).setCell (p := ⟨g + 1, 3, none⟩) (by show g ≤ g + 1; omega) _).setCell (p := ⟨g + 1, 4, none⟩) (by show g ≤ g + 1; omega) _).setCell (p := ⟨g + 1, 5, none⟩) (by show g ≤ g + 1; omega) _)⟩
  have HW : Hid (SlC ((((((x2.setCell ⟨g + 1, 0, none⟩ (.bool np)).setCell ⟨g + 1, 1, none⟩ (.slice po pl pc)).setCell ⟨g + 1, 2, none⟩ (.slice pO pL pC)).setCell ⟨g + 1, 3, none⟩ (.bool nq)).setCell ⟨g + 1, 4, none⟩ (.slice qo ql qc)).setCell ⟨g + 1, 5, none⟩ (.slice qO qL qC)) (g + 1) np (.slice po pl pc) (.slice pO pL pC) nq (.slice qo ql qc) (.slice qO qL qC)) := qR.write _ _ _ _ _ _
  obtain ⟨y0, y1, y2, y3, y4, y5⟩ := qR.cells
  have f0 := qR.thaw 0
  have f1 := qR.thaw 1
  have f2 := qR.thaw 2
  have f3 := qR.thaw 3
  have f4 := qR.thaw 4
  have f5 := qR.thaw 5
  clear qR hp hq bw zw
  go_wp2_with fail
  (try simp only [Exit.inBlock, Exit.then])
  exact bodyPost_ret (results_cell_row rfl _ _ (g + 1) 43 _ (0, 0) _ rfl HW.out Tryz.underlying43 rfl (by kernel_rfl)) rfl HE.out
set_option maxRecDepth 100000 in
set_option maxHeartbeats 6400000 in
theorem slopesAdd {na ma nb mb : Bool} {ao aO ap aP bo bO bp bP : Option Addr} {al ac aL aC aq ar aQ aR bl bc bL bC bq br bQ bR : Nat} {x x' y y' : Rat} {L M : Nat} {w : World} (ha : RNum w (.agg #[.bool na, .slice ao al ac, .slice aO aL aC]) x L) (ha2 : RNum w (.agg #[.bool ma, .slice ap aq ar, .slice aP aQ aR]) x' L) (hb : RNum w (.agg #[.bool nb, .slice bo bl bc, .slice bO bL bC]) y M) (hb2 : RNum w (.agg #[.bool mb, .slice bp bq br, .slice bP bQ bR]) y' M) (hK : L + M + 1 ≤ 1000000) : Calls Tryz.prog 32 #[.agg #[], .agg #[.bool na, .slice ao al ac, .slice aO aL aC, .bool ma, .slice ap aq ar, .slice aP aQ aR], .agg #[.bool nb, .slice bo bl bc, .slice bO bL bC, .bool mb, .slice bp bq br, .slice bP bQ bR]] w fun e w' => SlEnd w (x + y) (x' + y') e w' := by
  obtain ⟨W1, hW1⟩ : ∃ W1, W1 = (((w.alloc (.cells #[] 45)).alloc (.cells #[.bool na, .slice ao al ac, .slice aO aL aC, .bool ma, .slice ap aq ar, .slice aP aQ aR] 43)).alloc (.cells #[.bool nb, .slice bo bl bc, .slice bO bL bC, .bool mb, .slice bp bq br, .slice bP bQ bR] 43)).alloc (.cells #[.bool false, .slice none 0 0, .slice none 0 0, .bool false, .slice none 0 0, .slice none 0 0] 43) := ⟨_, rfl⟩
  have qA : SlC W1 (w.heap.size + 1) na (.slice ao al ac) (.slice aO aL aC) ma (.slice ap aq ar) (.slice aP aQ aR) := by rw [hW1]; exact slc_step (slc_step (slc_new _ (by simp)))
  have qB : SlC W1 (w.heap.size + 1 + 1) nb (.slice bo bl bc) (.slice bO bL bC) mb (.slice bp bq br) (.slice bP bQ bR) := by rw [hW1]; exact slc_step (slc_new _ (by simp))
  have qR : SlC W1 (w.heap.size + 1 + 1 + 1) false (.slice none 0 0) (.slice none 0 0) false (.slice none 0 0) (.slice none 0 0) := by rw [hW1]; exact slc_new _ (by simp)
  have bw : Below w.heap.size w W1 := by rw [hW1]; exact bstep (bstep (bstep (belowA w _) (belowA _ _)) (belowA _ _)) (belowA _ _)
  have zw : w.heap.size + 1 + 1 + 1 + 1 ≤ W1.heap.size := by rw [hW1]; simp
  replace ha := ha.below bw
  replace ha2 := ha2.below bw
  replace hb := hb.below bw
  replace hb2 := hb2.below bw
  obtain ⟨g, hg⟩ : ∃ g, g = w.heap.size := ⟨_, rfl⟩
  rw [← hg] at qA qB qR bw zw
  have HW1 : Hid (W1 = (((w.alloc (.cells #[] 45)).alloc (.cells #[.bool na, .slice ao al ac, .slice aO aL aC, .bool ma, .slice ap aq ar, .slice aP aQ aR] 43)).alloc (.cells #[.bool nb, .slice bo bl bc, .slice bO bL bC, .bool mb, .slice bp bq br, .slice bP bQ bR] 43)).alloc (.cells #[.bool false, .slice none 0 0, .slice none 0 0, .bool false, .slice none 0 0, .slice none 0 0] 43)) := hW1
  have HG : Hid (g = w.heap.size) := hg
  clear hW1 hg
  go_enter Tryz.func32, Tryz.ntmps32
  go_upto_region 1 with fail
  rw [← HW1.out, ← HG.out]
  clear HW1
  have KEEP : ∀ u, Below W1.heap.size W1 u → L3.AllL u [(1, fun w' => w'.cell? ⟨g + 1, 0, none⟩ = some (.bool na) ∧ w'.cell? ⟨g + 1, 1, none⟩ = some (.slice ao al ac) ∧ w'.cell? ⟨g + 1, 2, none⟩ = some (.slice aO aL aC)), (3, fun w' => w'.cell? ⟨g + 1 + 1, 0, none⟩ = some (.bool nb) ∧ w'.cell? ⟨g + 1 + 1, 1, none⟩ = some (.slice bo bl bc) ∧ w'.cell? ⟨g + 1 + 1, 2, none⟩ = some (.slice bO bL bC)), (6, fun w' => w'.cell? ⟨g + 1, 3, none⟩ = some (.bool ma) ∧ w'.cell? ⟨g + 1, 4, none⟩ = some (.slice ap aq ar) ∧ w'.cell? ⟨g + 1, 5, none⟩ = some (.slice aP aQ aR)), (8, fun w' => w'.cell? ⟨g + 1 + 1, 3, none⟩ = some (.bool mb) ∧ w'.cell? ⟨g + 1 + 1, 4, none⟩ = some (.slice bp bq br) ∧ w'.cell? ⟨g + 1 + 1, 5, none⟩ = some (.slice bP bQ bR))] := fun u hu => ⟨⟨(qA.below hu).cells.1, (qA.below hu).cells.2.1, (qA.below hu).cells.2.2.1⟩, ⟨(qB.below hu).cells.1, (qB.below hu).cells.2.1, (qB.below hu).cells.2.2.1⟩, ⟨(qA.below hu).cells.2.2.2.1, (qA.below hu).cells.2.2.2.2.1, (qA.below hu).cells.2.2.2.2.2⟩, ⟨(qB.below hu).cells.2.2.2.1, (qB.below hu).cells.2.2.2.2.1, (qB.below hu).cells.2.2.2.2.2⟩, trivial⟩
  refine L3.region_late [(1, fun w' => w'.cell? ⟨g + 1, 0, none⟩ = some (.bool na) ∧ w'.cell? ⟨g + 1, 1, none⟩ = some (.slice ao al ac) ∧ w'.cell? ⟨g + 1, 2, none⟩ = some (.slice aO aL aC)), (3, fun w' => w'.cell? ⟨g + 1 + 1, 0, none⟩ = some (.bool nb) ∧ w'.cell? ⟨g + 1 + 1, 1, none⟩ = some (.slice bo bl bc) ∧ w'.cell? ⟨g + 1 + 1, 2, none⟩ = some (.slice bO bL bC)), (6, fun w' => w'.cell? ⟨g + 1, 3, none⟩ = some (.bool ma) ∧ w'.cell? ⟨g + 1, 4, none⟩ = some (.slice ap aq ar) ∧ w'.cell? ⟨g + 1, 5, none⟩ = some (.slice aP aQ aR)), (8, fun w' => w'.cell? ⟨g + 1 + 1, 3, none⟩ = some (.bool mb) ∧ w'.cell? ⟨g + 1 + 1, 4, none⟩ = some (.slice bp bq br) ∧ w'.cell? ⟨g + 1 + 1, 5, none⟩ = some (.slice bP bQ bR))] (by kernel_rfl) ?_
  have B : Below W1.heap.size W1 W1.drew := (Below.refl _ _).drew
  obtain ⟨w1, hw1⟩ : ∃ u, u = W1.drew := ⟨_, rfl⟩
  rw [← hw1] at B ⊢
  clear hw1
  have hHeld := KEEP _ B
  refine L3.late_free 0 (v := .pointer (some ⟨g + 1, 0, none⟩)) rfl (by kernel_rfl) (by kernel_rfl) (by kernel_rfl) (by kernel_rfl) (by kernel_rfl) (by kernel_rfl) (fun _ _ _ h => h) (Or.inl ⟨by rfl, ?_⟩) hHeld ?_
  · (intro u _; go_simp)
  (try simp only [Act.put, List.setIfInBounds_toArray, List.set_cons_zero, List.set_cons_succ])
  refine L3.late_take 1 (v := .agg #[.bool na, .slice ao al ac, .slice aO aL aC]) rfl (by kernel_rfl) (List.Mem.head _) (by kernel_rfl) (by kernel_rfl) (by kernel_rfl) (by kernel_rfl) (fun _ _ _ h => h) (Or.inl ⟨by rfl, ?_⟩) hHeld ?_
  · (intro u hu; (try dsimp only at hu); go_split_ands; go_simp)
  (try simp only [Act.put, List.setIfInBounds_toArray, List.set_cons_zero, List.set_cons_succ])
  refine L3.late_free 2 (v := .pointer (some ⟨g + 1 + 1, 0, none⟩)) rfl (by kernel_rfl) (by kernel_rfl) (by kernel_rfl) (by kernel_rfl) (by kernel_rfl) (by kernel_rfl) (fun _ _ _ h => h) (Or.inl ⟨by rfl, ?_⟩) hHeld ?_
  · (intro u _; go_simp)
  (try simp only [Act.put, List.setIfInBounds_toArray, List.set_cons_zero, List.set_cons_succ])
  refine L3.late_take 3 (v := .agg #[.bool nb, .slice bo bl bc, .slice bO bL bC]) rfl (by kernel_rfl) (List.Mem.tail _ (List.Mem.head _)) (by kernel_rfl) (by kernel_rfl) (by kernel_rfl) (by kernel_rfl) (fun _ _ _ h => h) (Or.inl ⟨by rfl, ?_⟩) hHeld ?_
  · (intro u hu; (try dsimp only at hu); go_split_ands; go_simp)
  (try simp only [Act.put, List.setIfInBounds_toArray, List.set_cons_zero, List.set_cons_succ])
  refine L3.late_free 5 (v := .pointer (some ⟨g + 1, 3, none⟩)) rfl (by kernel_rfl) (by kernel_rfl) (by kernel_rfl) (by kernel_rfl) (by kernel_rfl) (by kernel_rfl) (fun _ _ _ h => h) (Or.inl ⟨by rfl, ?_⟩) hHeld ?_
  · (intro u _; go_simp)
  (try simp only [Act.put, List.setIfInBounds_toArray, List.set_cons_zero, List.set_cons_succ])
  refine L3.late_take 6 (v := .agg #[.bool ma, .slice ap aq ar, .slice aP aQ aR]) rfl (by kernel_rfl) (List.Mem.tail _ (List.Mem.tail _ (List.Mem.head _))) (by kernel_rfl) (by kernel_rfl) (by kernel_rfl) (by kernel_rfl) (fun _ _ _ h => h) (Or.inl ⟨by rfl, ?_⟩) hHeld ?_
  · (intro u hu; (try dsimp only at hu); go_split_ands; go_simp)
  (try simp only [Act.put, List.setIfInBounds_toArray, List.set_cons_zero, List.set_cons_succ])
  refine L3.late_free 7 (v := .pointer (some ⟨g + 1 + 1, 3, none⟩)) rfl (by kernel_rfl) (by kernel_rfl) (by kernel_rfl) (by kernel_rfl) (by kernel_rfl) (by kernel_rfl) (fun _ _ _ h => h) (Or.inl ⟨by rfl, ?_⟩) hHeld ?_
  · (intro u _; go_simp)
  (try simp only [Act.put, List.setIfInBounds_toArray, List.set_cons_zero, List.set_cons_succ])
  refine L3.late_take 8 (v := .agg #[.bool mb, .slice bp bq br, .slice bP bQ bR]) rfl (by kernel_rfl) (List.Mem.tail _ (List.Mem.tail _ (List.Mem.tail _ (List.Mem.head _)))) (by kernel_rfl) (by kernel_rfl) (by kernel_rfl) (by kernel_rfl) (fun _ _ _ h => h) (Or.inl ⟨by rfl, ?_⟩) hHeld ?_
  · (intro u hu; (try dsimp only at hu); go_split_ands; go_simp)
  (try simp only [Act.put, List.setIfInBounds_toArray, List.set_cons_zero, List.set_cons_succ])
  refine L3.late_step 4 (by kernel_rfl) rfl (fun K hK => ?_)
  go_simp
  refine (c_radd (ha.below B) (hb.below B) (by omega)).mono ?_
  rintro e u2 ⟨v, rfl, hp2, c2⟩
  have hp2 := hp2.rehome (B' := g + 1 + 1 + 1 + 1) (Nat.le_trans zw B.size)
  obtain ⟨np2, p2o, p2l, p2c, p2O, p2L, p2C, rfl⟩ := hp2.seeV
  have B := B.trans (c2.mono B.size)
  clear c2 hHeld
  have hHeld := KEEP _ B
  go_wp2_with fail
  refine hK.out _ _ (L3.AllL.kept hHeld) ?_
  clear hK K
  (try simp only [Act.put, List.setIfInBounds_toArray, List.set_cons_zero, List.set_cons_succ])
  refine L3.late_step 9 (by kernel_rfl) rfl (fun K hK => ?_)
  go_simp
  refine (c_radd (ha2.below B) (hb2.below B) (by omega)).mono ?_
  rintro e u3 ⟨v, rfl, hp3, c3⟩
  have hp3 := hp3.rehome (B' := g + 1 + 1 + 1 + 1) (Nat.le_trans zw B.size)
  obtain ⟨np3, p3o, p3l, p3c, p3O, p3L, p3C, rfl⟩ := hp3.seeV
  have B := B.trans (c3.mono B.size)
  replace hp2 := hp2.below c3
  clear c3 hHeld
  have hHeld := KEEP _ B
  go_wp2_with fail
  refine hK.out _ _ (L3.AllL.kept hHeld) ?_
  clear hK K
  (try simp only [Act.put, List.setIfInBounds_toArray, List.set_cons_zero, List.set_cons_succ])
  refine L3.late_free 10 (v := .agg #[.bool np2, .slice p2o p2l p2c, .slice p2O p2L p2C, .bool np3, .slice p3o p3l p3c, .slice p3O p3L p3C]) rfl (by kernel_rfl) (by kernel_rfl) (by kernel_rfl) (by kernel_rfl) (by kernel_rfl) (by kernel_rfl) (fun _ _ _ h => h) (Or.inl ⟨by rfl, ?_⟩) hHeld ?_
  · (intro u _; go_simp)
  (try simp only [Act.put, List.setIfInBounds_toArray, List.set_cons_zero, List.set_cons_succ])
  have HE : Hid (SlEnd w (x + y) (x' + y') (.returned (.agg #[.bool np2, .slice p2o p2l p2c, .slice p2O p2L p2C, .bool np3, .slice p3o p3l p3c, .slice p3O p3L p3C])) ((((((u3.setCell ⟨g + 1 + 1 + 1, 0, none⟩ (.bool np2)).setCell ⟨g + 1 + 1 + 1, 1, none⟩ (.slice p2o p2l p2c)).setCell ⟨g + 1 + 1 + 1, 2, none⟩ (.slice p2O p2L p2C)).setCell ⟨g + 1 + 1 + 1, 3, none⟩ (.bool np3)).setCell ⟨g + 1 + 1 + 1, 4, none⟩ (.slice p3o p3l p3c)).setCell ⟨g + 1 + 1 + 1, 5, none⟩ (.slice p3O p3L p3C))) := ⟨_, _, _, _, _, _, _, _, _, _, _, _, _, _, rfl, (by rw [← HG.out]; exact ((((((hp2.one (by omega) 0 _).one (by omega) 1 _).one (by omega) 2 _).one (by omega) 3 _).one (by omega) 4 _).one (by omega) 5 _).rehome (by omega)), (by rw [← HG.out]; exact ((((((hp3.one (by omega) 0 _).one (by omega) 1 _).one (by omega) 2 _).one (by omega) 3 _).one (by omega) 4 _).one (by omega) 5 _).rehome (by omega)), (by rw [← HG.out]; exact ((((((bw.trans (B.mono (by omega))).setCell (p := ⟨g + 1 + 1 + 1, 0, none⟩) (by show g ≤ g + 1 + 1 + 1; omega) _).setCell (p := ⟨g + 1 + 1 + 1, 1, none⟩) (by show g ≤ g + 1 + 1 + 1; omega) _).setCell (p := ⟨g + 1 + 1 + 1, 2, none⟩) (by show g ≤ g + 1 + 1 + 1; omega) _).setCell (p := ⟨g + 1 + 1 + 1, 3, none⟩) (by show g ≤ g + 1 + 1 + 1; omega) _).setCell (p := ⟨g + 1 + 1 + 1, 4, none⟩) (by show g ≤ g + 1 + 1 + 1; omega) _).setCell (p := ⟨g + 1 + 1 + 1, 5, none⟩) (by show g ≤ g + 1 + 1 + 1; omega) _)⟩
  have HW : Hid (SlC ((((((u3.setCell ⟨g + 1 + 1 + 1, 0, none⟩ (.bool np2)).setCell ⟨g + 1 + 1 + 1, 1, none⟩ (.slice p2o p2l p2c)).setCell ⟨g + 1 + 1 + 1, 2, none⟩ (.slice p2O p2L p2C)).setCell ⟨g + 1 + 1 + 1, 3, none⟩ (.bool np3)).setCell ⟨g + 1 + 1 + 1, 4, none⟩ (.slice p3o p3l p3c)).setCell ⟨g + 1 + 1 + 1, 5, none⟩ (.slice p3O p3L p3C)) (g + 1 + 1 + 1) np2 (.slice p2o p2l p2c) (.slice p2O p2L p2C) np3 (.slice p3o p3l p3c) (.slice p3O p3L p3C)) := (qR.below B).write _ _ _ _ _ _
  have qA2 : SlC ((((((u3.setCell ⟨g + 1 + 1 + 1, 0, none⟩ (.bool np2)).setCell ⟨g + 1 + 1 + 1, 1, none⟩ (.slice p2o p2l p2c)).setCell ⟨g + 1 + 1 + 1, 2, none⟩ (.slice p2O p2L p2C)).setCell ⟨g + 1 + 1 + 1, 3, none⟩ (.bool np3)).setCell ⟨g + 1 + 1 + 1, 4, none⟩ (.slice p3o p3l p3c)).setCell ⟨g + 1 + 1 + 1, 5, none⟩ (.slice p3O p3L p3C)) (g + 1) na (.slice ao al ac) (.slice aO aL aC) ma (.slice ap aq ar) (.slice aP aQ aR) := ((((((qA.below B).other (by omega) 0 _).other (by omega) 1 _).other (by omega) 2 _).other (by omega) 3 _).other (by omega) 4 _).other (by omega) 5 _
  have qB2 : SlC ((((((u3.setCell ⟨g + 1 + 1 + 1, 0, none⟩ (.bool np2)).setCell ⟨g + 1 + 1 + 1, 1, none⟩ (.slice p2o p2l p2c)).setCell ⟨g + 1 + 1 + 1, 2, none⟩ (.slice p2O p2L p2C)).setCell ⟨g + 1 + 1 + 1, 3, none⟩ (.bool np3)).setCell ⟨g + 1 + 1 + 1, 4, none⟩ (.slice p3o p3l p3c)).setCell ⟨g + 1 + 1 + 1, 5, none⟩ (.slice p3O p3L p3C)) (g + 1 + 1) nb (.slice bo bl bc) (.slice bO bL bC) mb (.slice bp bq br) (.slice bP bQ bR) := ((((((qB.below B).other (by omega) 0 _).other (by omega) 1 _).other (by omega) 2 _).other (by omega) 3 _).other (by omega) 4 _).other (by omega) 5 _
  have hH2 : L3.AllL ((((((u3.setCell ⟨g + 1 + 1 + 1, 0, none⟩ (.bool np2)).setCell ⟨g + 1 + 1 + 1, 1, none⟩ (.slice p2o p2l p2c)).setCell ⟨g + 1 + 1 + 1, 2, none⟩ (.slice p2O p2L p2C)).setCell ⟨g + 1 + 1 + 1, 3, none⟩ (.bool np3)).setCell ⟨g + 1 + 1 + 1, 4, none⟩ (.slice p3o p3l p3c)).setCell ⟨g + 1 + 1 + 1, 5, none⟩ (.slice p3O p3L p3C)) [(1, fun w' => w'.cell? ⟨g + 1, 0, none⟩ = some (.bool na) ∧ w'.cell? ⟨g + 1, 1, none⟩ = some (.slice ao al ac) ∧ w'.cell? ⟨g + 1, 2, none⟩ = some (.slice aO aL aC)), (3, fun w' => w'.cell? ⟨g + 1 + 1, 0, none⟩ = some (.bool nb) ∧ w'.cell? ⟨g + 1 + 1, 1, none⟩ = some (.slice bo bl bc) ∧ w'.cell? ⟨g + 1 + 1, 2, none⟩ = some (.slice bO bL bC)), (6, fun w' => w'.cell? ⟨g + 1, 3, none⟩ = some (.bool ma) ∧ w'.cell? ⟨g + 1, 4, none⟩ = some (.slice ap aq ar) ∧ w'.cell? ⟨g + 1, 5, none⟩ = some (.slice aP aQ aR)), (8, fun w' => w'.cell? ⟨g + 1 + 1, 3, none⟩ = some (.bool mb) ∧ w'.cell? ⟨g + 1 + 1, 4, none⟩ = some (.slice bp bq br) ∧ w'.cell? ⟨g + 1 + 1, 5, none⟩ = some (.slice bP bQ bR))] := ⟨⟨(qA2.below (Below.refl _ _)).cells.1, (qA2.below (Below.refl _ _)).cells.2.1, (qA2.below (Below.refl _ _)).cells.2.2.1⟩, ⟨(qB2.below (Below.refl _ _)).cells.1, (qB2.below (Below.refl _ _)).cells.2.1, (qB2.below (Below.refl _ _)).cells.2.2.1⟩, ⟨(qA2.below (Below.refl _ _)).cells.2.2.2.1, (qA2.below (Below.refl _ _)).cells.2.2.2.2.1, (qA2.below (Below.refl _ _)).cells.2.2.2.2.2⟩, ⟨(qB2.below (Below.refl _ _)).cells.2.2.2.1, (qB2.below (Below.refl _ _)).cells.2.2.2.2.1, (qB2.below (Below.refl _ _)).cells.2.2.2.2.2⟩, trivial⟩
  obtain ⟨y0, y1, y2, y3, y4, y5⟩ := (qR.below B).cells
  have f0 := (qR.below B).thaw 0
  have f1 := (qR.below B).thaw 1
  have f2 := (qR.below B).thaw 2
  have f3 := (qR.below B).thaw 3
  have f4 := (qR.below B).thaw 4
  have f5 := (qR.below B).thaw 5
  refine L3.late_step 11 (by kernel_rfl) rfl (fun K hK => ?_)
  go_simp
  refine hK.out _ _ (L3.AllL.kept hH2) ?_
  clear hK K
  (try simp only [Act.put, List.setIfInBounds_toArray, List.set_cons_zero, List.set_cons_succ])
  clear y0 y1 y2 y3 y4 y5 f0 f1 f2 f3 f4 f5 qA2 qB2 hH2
  refine L3.late_done (by kernel_rfl) ?_ _
  clear hHeld KEEP
  clear B bw zw qA qB qR ha ha2 hb hb2 hp2 hp3
  go_wp2_with fail
  (try simp only [Exit.inBlock, Exit.then])
  exact bodyPost_ret (results_cell_row rfl _ _ (g + 1 + 1 + 1) 43 _ (0, 0) _ rfl HW.out Tryz.underlying43 rfl (by kernel_rfl)) rfl HE.out
theorem mSlopesOne (w : World) : (Go.method 268 45 (.agg #[]) "One").run Tryz.prog w = .ok (37, .agg #[]) w := by kernel_rfl
theorem entSlopesOne : ∀ args w, (callFunc 37 args).run Tryz.prog w = .ok (.enter 37 args) w := enters_of Tryz.func37 (by kernel_rfl) rfl
theorem mSlopesMul (w : World) : (Go.method 268 45 (.agg #[]) "Mul").run Tryz.prog w = .ok (33, .agg #[]) w := by kernel_rfl
theorem entSlopesMul : ∀ args w, (callFunc 33 args).run Tryz.prog w = .ok (.enter 33 args) w := enters_of Tryz.func33 (by kernel_rfl) rfl
/-- Powers of a slope. -/
def sp1 (x : Rat) (i : Nat) : Rat := fo muQ 1 (fun _ => x) i
def sp2 (x x' : Rat) : Nat → Rat
  | 0 => 0
  | i + 1 => sp1 x i * x' + sp2 x x' i * x
/-- What a power of a slope leaves. -/
def SlT (w : World) (r s : Rat) (e : Ending) (w' : World) : Prop := ∃ n ao al ac bo bl bc n2 co cl cc eo el ec, e = .returned (.tuple #[.agg #[.bool n, .slice ao al ac, .slice bo bl bc, .bool n2, .slice co cl cc, .slice eo el ec], .int .i64 0]) ∧ ROwn w.heap.size w' (.agg #[.bool n, .slice ao al ac, .slice bo bl bc]) r ∧ ROwn w.heap.size w' (.agg #[.bool n2, .slice co cl cc, .slice eo el ec]) s ∧ Below w.heap.size w w'
theorem SlC.nointS {w : World} {g : Nat} {n n2 : Bool} {o O p P : Option Addr} {l c L C q r Q R : Nat} (h : SlC w g n (.slice o l c) (.slice O L C) n2 (.slice p q r) (.slice P Q R)) : NoInt w g := by
  intro i k z e
  rw [cell_of_row w g _ _ _ _ h] at e
  match i, e with
  | 0, e => cases e
  | 1, e => cases e
  | 2, e => cases e
  | 3, e => cases e
  | 4, e => cases e
  | 5, e => cases e
  | i + 6, e => simp at e
theorem RNum.boxW {w w' : World} {v : Value} {x : Rat} {L g : Nat} (h : RNum w v x L) (hn : NoInt w g) (hw : ∀ k, k ≠ g → w'.heap[k]? = w.heap[k]?) : RNum w' v x L := by
  obtain ⟨p, r, ⟨n', ao, al, ac, bo, bl, bc, ys, rfl, h1, h2, h3, h4⟩, h5⟩ := h
  exact ⟨p, r, ⟨n', ao, al, ac, bo, bl, bc, ys, rfl, h1.box hn hw, h2.box hn hw, h3, h4⟩, h5⟩
theorem set6_other (w : World) (g : Nat) (a b c d e f : Value) : ∀ k, k ≠ g → ((((((w.setCell ⟨g, 0, none⟩ a).setCell ⟨g, 1, none⟩ b).setCell ⟨g, 2, none⟩ c).setCell ⟨g, 3, none⟩ d).setCell ⟨g, 4, none⟩ e).setCell ⟨g, 5, none⟩ f).heap[k]? = w.heap[k]? := by
  intro k hk
  rw [heap_setCell_other _ _ _ _ hk, heap_setCell_other _ _ _ _ hk, heap_setCell_other _ _ _ _ hk, heap_setCell_other _ _ _ _ hk, heap_setCell_other _ _ _ _ hk, heap_setCell_other _ _ _ _ hk]
set_option maxRecDepth 100000 in
set_option maxHeartbeats 6400000 in
theorem powSlopes {na ma : Bool} {ao aO ap aP : Option Addr} {al ac aL aC aq ar aQ aR : Nat} {x x' : Rat} (n L S : Nat) (w : World) (ha : RNum w (.agg #[.bool na, .slice ao al ac, .slice aO aL aC]) x L) (ha2 : RNum w (.agg #[.bool ma, .slice ap aq ar, .slice aP aQ aR]) x' L) (hS : ∀ i, i ≤ n → RSz (sp1 x i) S ∧ RSz (sp2 x x' i) S) (hB : S + L + 1 ≤ 400000) (hn6 : n ≤ 1024) : Calls Tryz.prog 68 #[.iface 45 (.agg #[]), .agg #[.bool na, .slice ao al ac, .slice aO aL aC, .bool ma, .slice ap aq ar, .slice aP aQ aR], .int .i64 n] w fun e w' => SlT w (sp1 x n) (sp2 x x' n) e w' := by
  have HS : Hid (∀ i, i ≤ n → RSz (sp1 x i) S ∧ RSz (sp2 x x' i) S) := hS
  clear hS
  have hm0 := mSlopesOne
  have hm1 := mSlopesMul
  have he0 := entSlopesOne
  have he1 := entSlopesMul
  have hn0 : ¬ (n : Int) < 0 := by omega
  have hn1 : ¬ (n : Int) > 1024 := by omega
  obtain ⟨W1, hW1⟩ : ∃ W1, W1 = ((w.alloc (.cells #[.bool na, .slice ao al ac, .slice aO aL aC, .bool ma, .slice ap aq ar, .slice aP aQ aR] 43)).alloc (.cells #[.bool false, .slice none 0 0, .slice none 0 0, .bool false, .slice none 0 0, .slice none 0 0] 43)).alloc (.cells #[.bool false, .slice none 0 0, .slice none 0 0, .bool false, .slice none 0 0, .slice none 0 0] 43) := ⟨_, rfl⟩
  have qA : SlC W1 (w.heap.size) na (.slice ao al ac) (.slice aO aL aC) ma (.slice ap aq ar) (.slice aP aQ aR) := by rw [hW1]; exact slc_step (slc_step (slc_new _ rfl))
  have qR : SlC W1 (w.heap.size + 1) false (.slice none 0 0) (.slice none 0 0) false (.slice none 0 0) (.slice none 0 0) := by rw [hW1]; exact slc_step (slc_new _ (by simp))
  have bw : Below w.heap.size w W1 := by rw [hW1]; exact bstep (bstep (belowA w _) (belowA _ _)) (belowA _ _)
  have zw : w.heap.size + 1 + 1 + 1 ≤ W1.heap.size := by rw [hW1]; simp
  replace ha := ha.below bw
  replace ha2 := ha2.below bw
  obtain ⟨g, hg⟩ : ∃ g, g = w.heap.size := ⟨_, rfl⟩
  rw [← hg] at qA qR bw zw
  have HW1 : Hid (W1 = ((w.alloc (.cells #[.bool na, .slice ao al ac, .slice aO aL aC, .bool ma, .slice ap aq ar, .slice aP aQ aR] 43)).alloc (.cells #[.bool false, .slice none 0 0, .slice none 0 0, .bool false, .slice none 0 0, .slice none 0 0] 43)).alloc (.cells #[.bool false, .slice none 0 0, .slice none 0 0, .bool false, .slice none 0 0, .slice none 0 0] 43)) := hW1
  have HG : Hid (g = w.heap.size) := hg
  clear hW1 hg
  have H_qA : Hid (SlC W1 (g) na (.slice ao al ac) (.slice aO aL aC) ma (.slice ap aq ar) (.slice aP aQ aR)) := qA
  have H_qR : Hid (SlC W1 (g + 1) false (.slice none 0 0) (.slice none 0 0) false (.slice none 0 0) (.slice none 0 0)) := qR
  have H_ha : Hid (RNum W1 (.agg #[.bool na, .slice ao al ac, .slice aO aL aC]) x L) := ha
  have H_ha2 : Hid (RNum W1 (.agg #[.bool ma, .slice ap aq ar, .slice aP aQ aR]) x' L) := ha2
  have H_bw : Hid (Below g w W1) := bw
  have H_zw : Hid (g + 1 + 1 + 1 ≤ W1.heap.size) := zw
  clear qA qR ha ha2 bw zw
  go_enter Tryz.func68, Tryz.ntmps68
  go_upto_region 2 with fail
  rw [← HW1.out, ← HG.out]
  clear HW1
  have qA := H_qA.out
  have qR := H_qR.out
  have ha := H_ha.out
  have ha2 := H_ha2.out
  have bw := H_bw.out
  have zw := H_zw.out
  clear H_qA H_qR H_ha H_ha2 H_bw H_zw
  have CC : Hid _ := slopesOne W1
  have H_qA : Hid (SlC W1 (g) na (.slice ao al ac) (.slice aO aL aC) ma (.slice ap aq ar) (.slice aP aQ aR)) := qA
  have H_qR : Hid (SlC W1 (g + 1) false (.slice none 0 0) (.slice none 0 0) false (.slice none 0 0) (.slice none 0 0)) := qR
  have H_ha : Hid (RNum W1 (.agg #[.bool na, .slice ao al ac, .slice aO aL aC]) x L) := ha
  have H_ha2 : Hid (RNum W1 (.agg #[.bool ma, .slice ap aq ar, .slice aP aQ aR]) x' L) := ha2
  have H_bw : Hid (Below g w W1) := bw
  have H_zw : Hid (g + 1 + 1 + 1 ≤ W1.heap.size) := zw
  clear qA qR ha ha2 bw zw
  go_wp2_with fail
  refine Calls.mono CC.out ?_
  rintro e x1 ⟨nm, mo, ml, mc, mO, mL, mC, mm, mp, mq, mr, mP, mQ, mR, rfl, hv, hv2, b1⟩
  clear CC 
  have qA := H_qA.out
  have qR := H_qR.out
  have ha := H_ha.out
  have ha2 := H_ha2.out
  have bw := H_bw.out
  have zw := H_zw.out
  clear H_qA H_qR H_ha H_ha2 H_bw H_zw
  replace hv := hv.rehome (B' := g + 1 + 1 + 1) zw
  replace hv2 := hv2.rehome (B' := g + 1 + 1 + 1) zw
  replace qA := qA.below b1
  replace qR := qR.below b1
  replace ha := ha.below b1
  replace ha2 := ha2.below b1
  replace bw := bw.trans (b1.mono (by omega))
  replace zw := Nat.le_trans zw b1.size
  clear b1
  replace hv : ROwn (g + 1 + 1 + 1) x1 (.agg #[.bool nm, .slice mo ml mc, .slice mO mL mC]) (sp1 x 0) := hv
  replace hv2 : ROwn (g + 1 + 1 + 1) x1 (.agg #[.bool mm, .slice mp mq mr, .slice mP mQ mR]) (sp2 x x' 0) := hv2
  obtain ⟨V2, hV2⟩ : ∃ u, u = x1.alloc (.cells #[.bool nm, .slice mo ml mc, .slice mO mL mC, .bool mm, .slice mp mq mr, .slice mP mQ mR] 43) := ⟨_, rfl⟩
  obtain ⟨aS, haS⟩ : ∃ s, s = x1.heap.size := ⟨_, rfl⟩
  have qS : SlC V2 (aS) nm (.slice mo ml mc) (.slice mO mL mC) mm (.slice mp mq mr) (.slice mP mQ mR) := by rw [hV2]; exact slc_new _ haS.symm
  have bq : Below x1.heap.size x1 V2 := by rw [hV2]; exact belowA _ _
  have lS : g + 1 + 1 + 1 ≤ aS := by rw [haS]; exact zw
  have HV2 : Hid (V2 = x1.alloc (.cells #[.bool nm, .slice mo ml mc, .slice mO mL mC, .bool mm, .slice mp mq mr, .slice mP mQ mR] 43)) := hV2
  have HaS : Hid (aS = x1.heap.size) := haS
  clear hV2 haS
  replace qA := qA.below bq
  replace qR := qR.below bq
  replace ha := ha.below bq
  replace ha2 := ha2.below bq
  replace hv := hv.below bq
  replace hv2 := hv2.below bq
  replace bw := bw.trans (bq.mono (by omega))
  replace zw := Nat.le_trans zw bq.size
  clear bq
  have H_qA : Hid (SlC V2 (g) na (.slice ao al ac) (.slice aO aL aC) ma (.slice ap aq ar) (.slice aP aQ aR)) := qA
  have H_qR : Hid (SlC V2 (g + 1) false (.slice none 0 0) (.slice none 0 0) false (.slice none 0 0) (.slice none 0 0)) := qR
  have H_ha : Hid (RNum V2 (.agg #[.bool na, .slice ao al ac, .slice aO aL aC]) x L) := ha
  have H_ha2 : Hid (RNum V2 (.agg #[.bool ma, .slice ap aq ar, .slice aP aQ aR]) x' L) := ha2
  have H_hv : Hid (ROwn (g + 1 + 1 + 1) V2 (.agg #[.bool nm, .slice mo ml mc, .slice mO mL mC]) (sp1 x 0)) := hv
  have H_hv2 : Hid (ROwn (g + 1 + 1 + 1) V2 (.agg #[.bool mm, .slice mp mq mr, .slice mP mQ mR]) (sp2 x x' 0)) := hv2
  have H_qS : Hid (SlC V2 (aS) nm (.slice mo ml mc) (.slice mO mL mC) mm (.slice mp mq mr) (.slice mP mQ mR)) := qS
  have H_bw : Hid (Below g w V2) := bw
  have H_zw : Hid (g + 1 + 1 + 1 ≤ V2.heap.size) := zw
  clear qA qR ha ha2 hv hv2 qS bw zw
  go_upto_region 7 with fail
  rw [← HV2.out, ← HaS.out]
  clear HV2 HaS
  have qA := H_qA.out
  have qR := H_qR.out
  have ha := H_ha.out
  have ha2 := H_ha2.out
  have hv := H_hv.out
  have hv2 := H_hv2.out
  have qS := H_qS.out
  have bw := H_bw.out
  have zw := H_zw.out
  clear H_qA H_qR H_ha H_ha2 H_hv H_hv2 H_qS H_bw H_zw
  have HLS : Hid (g + 1 + 1 + 1 ≤ aS) := lS
  clear lS
  have H0 : Hid (SlC V2 (aS) nm (.slice mo ml mc) (.slice mO mL mC) mm (.slice mp mq mr) (.slice mP mQ mR) ∧ SlC V2 (g + 1) false (.slice none 0 0) (.slice none 0 0) false (.slice none 0 0) (.slice none 0 0) ∧ SlC V2 (g) na (.slice ao al ac) (.slice aO aL aC) ma (.slice ap aq ar) (.slice aP aQ aR) ∧ RNum V2 (.agg #[.bool na, .slice ao al ac, .slice aO aL aC]) x L ∧ RNum V2 (.agg #[.bool ma, .slice ap aq ar, .slice aP aQ aR]) x' L ∧ ROwn (g + 1 + 1 + 1) V2 (.agg #[.bool nm, .slice mo ml mc, .slice mO mL mC]) (sp1 x 0) ∧ ROwn (g + 1 + 1 + 1) V2 (.agg #[.bool mm, .slice mp mq mr, .slice mP mQ mR]) (sp2 x x' 0) ∧ Below g w V2 ∧ g + 1 + 1 + 1 ≤ V2.heap.size) := ⟨qS, qR, qA, ha, ha2, hv, hv2, bw, zw⟩
  clear qA qR ha ha2 hv hv2 qS bw zw
  go_wp2_with fail
  go_loopg [23] n (fun g1 v16 wr => ∃ (i : Nat) (nm_ : Bool) (mo : Option Addr) (ml mc : Nat) (mO : Option Addr) (mL mC : Nat) (mm_ : Bool) (mp : Option Addr) (mq mr : Nat) (mP : Option Addr) (mQ mR : Nat), v16 = .int .i64 i ∧ i ≤ n ∧ n - i ≤ g1 ∧ Hid (SlC wr (aS) nm_ (.slice mo ml mc) (.slice mO mL mC) mm_ (.slice mp mq mr) (.slice mP mQ mR) ∧ SlC wr (g + 1) false (.slice none 0 0) (.slice none 0 0) false (.slice none 0 0) (.slice none 0 0) ∧ SlC wr (g) na (.slice ao al ac) (.slice aO aL aC) ma (.slice ap aq ar) (.slice aP aQ aR) ∧ RNum wr (.agg #[.bool na, .slice ao al ac, .slice aO aL aC]) x L ∧ RNum wr (.agg #[.bool ma, .slice ap aq ar, .slice aP aQ aR]) x' L ∧ ROwn (g + 1 + 1 + 1) wr (.agg #[.bool nm_, .slice mo ml mc, .slice mO mL mC]) (sp1 x i) ∧ ROwn (g + 1 + 1 + 1) wr (.agg #[.bool mm_, .slice mp mq mr, .slice mP mQ mR]) (sp2 x x' i) ∧ Below g w wr ∧ g + 1 + 1 + 1 ≤ wr.heap.size))
  case atStart => exact ⟨0, _, _, _, _, _, _, _, _, _, _, _, _, _, _, rfl, Nat.zero_le _, by omega, H0⟩
  case round =>
    clear H0
    obtain ⟨i, nm, mo, ml, mc, mO, mL, mC, mm, mp, mq, mr, mP, mQ, mR, rfl, hin, hg1, HB⟩ := hrel
    obtain ⟨qS, qR, qA, ha, ha2, hv, hv2, bw, zw⟩ := HB.out
    clear HB
    by_cases hlt : i < n
    · have hltz : (i : Int) < (n : Int) := by omega
      have HLT : aS < wr.heap.size := qS.lt
      have HGE : g + 1 + 1 + 1 ≤ wr.heap.size := zw
      obtain ⟨s0, s1, s2, s3, s4, s5⟩ := qS.cells
      obtain ⟨a0, a1, a2, a3, a4, a5⟩ := qA.cells
      have CC : Hid _ := slopesMul (hv.nm (HS.out i hin).1 (by omega)) (hv2.nm (HS.out i hin).2 (by omega)) ha ha2 (by omega)
      have H_qS : Hid (SlC wr (aS) nm (.slice mo ml mc) (.slice mO mL mC) mm (.slice mp mq mr) (.slice mP mQ mR)) := qS
      have H_qA : Hid (SlC wr (g) na (.slice ao al ac) (.slice aO aL aC) ma (.slice ap aq ar) (.slice aP aQ aR)) := qA
      have H_qR : Hid (SlC wr (g + 1) false (.slice none 0 0) (.slice none 0 0) false (.slice none 0 0) (.slice none 0 0)) := qR
      have H_ha : Hid (RNum wr (.agg #[.bool na, .slice ao al ac, .slice aO aL aC]) x L) := ha
      have H_ha2 : Hid (RNum wr (.agg #[.bool ma, .slice ap aq ar, .slice aP aQ aR]) x' L) := ha2
      have H_hv : Hid (ROwn (g + 1 + 1 + 1) wr (.agg #[.bool nm, .slice mo ml mc, .slice mO mL mC]) (sp1 x i)) := hv
      have H_hv2 : Hid (ROwn (g + 1 + 1 + 1) wr (.agg #[.bool mm, .slice mp mq mr, .slice mP mQ mR]) (sp2 x x' i)) := hv2
      have H_bw : Hid (Below g w wr) := bw
      have H_zw : Hid (g + 1 + 1 + 1 ≤ wr.heap.size) := zw
      clear qS qA qR ha ha2 hv hv2 bw zw
      go_wp2_with fail
      refine Calls.mono CC.out ?_
      rintro e x2 ⟨nu, uo, ul, uc, uO, uL, uC, mu, up, uq, ur, uP, uQ, uR, rfl, hu, hu2, b2⟩
      clear CC 
      have qS := H_qS.out
      have qA := H_qA.out
      have qR := H_qR.out
      have ha := H_ha.out
      have ha2 := H_ha2.out
      have hv := H_hv.out
      have hv2 := H_hv2.out
      have bw := H_bw.out
      have zw := H_zw.out
      clear H_qS H_qA H_qR H_ha H_ha2 H_hv H_hv2 H_bw H_zw
      have hu := hu.rehome (B' := aS + 1) HLT
      have hu2 := hu2.rehome (B' := aS + 1) HLT
      clear s0 s1 s2 s3 s4 s5 a0 a1 a2 a3 a4 a5
      replace qS := qS.below b2
      replace qA := qA.below b2
      replace qR := qR.below b2
      replace ha := ha.below b2
      replace ha2 := ha2.below b2
      replace hv := hv.below b2
      replace hv2 := hv2.below b2
      replace bw := bw.trans (b2.mono (by omega))
      replace zw := Nat.le_trans zw b2.size
      clear b2
      have hls := HLS.out
      have HN : Hid (SlC ((((((x2.setCell ⟨aS, 0, none⟩ (.bool nu)).setCell ⟨aS, 1, none⟩ (.slice uo ul uc)).setCell ⟨aS, 2, none⟩ (.slice uO uL uC)).setCell ⟨aS, 3, none⟩ (.bool mu)).setCell ⟨aS, 4, none⟩ (.slice up uq ur)).setCell ⟨aS, 5, none⟩ (.slice uP uQ uR)) (aS) nu (.slice uo ul uc) (.slice uO uL uC) mu (.slice up uq ur) (.slice uP uQ uR) ∧ SlC ((((((x2.setCell ⟨aS, 0, none⟩ (.bool nu)).setCell ⟨aS, 1, none⟩ (.slice uo ul uc)).setCell ⟨aS, 2, none⟩ (.slice uO uL uC)).setCell ⟨aS, 3, none⟩ (.bool mu)).setCell ⟨aS, 4, none⟩ (.slice up uq ur)).setCell ⟨aS, 5, none⟩ (.slice uP uQ uR)) (g + 1) false (.slice none 0 0) (.slice none 0 0) false (.slice none 0 0) (.slice none 0 0) ∧ SlC ((((((x2.setCell ⟨aS, 0, none⟩ (.bool nu)).setCell ⟨aS, 1, none⟩ (.slice uo ul uc)).setCell ⟨aS, 2, none⟩ (.slice uO uL uC)).setCell ⟨aS, 3, none⟩ (.bool mu)).setCell ⟨aS, 4, none⟩ (.slice up uq ur)).setCell ⟨aS, 5, none⟩ (.slice uP uQ uR)) (g) na (.slice ao al ac) (.slice aO aL aC) ma (.slice ap aq ar) (.slice aP aQ aR) ∧ RNum ((((((x2.setCell ⟨aS, 0, none⟩ (.bool nu)).setCell ⟨aS, 1, none⟩ (.slice uo ul uc)).setCell ⟨aS, 2, none⟩ (.slice uO uL uC)).setCell ⟨aS, 3, none⟩ (.bool mu)).setCell ⟨aS, 4, none⟩ (.slice up uq ur)).setCell ⟨aS, 5, none⟩ (.slice uP uQ uR)) (.agg #[.bool na, .slice ao al ac, .slice aO aL aC]) x L ∧ RNum ((((((x2.setCell ⟨aS, 0, none⟩ (.bool nu)).setCell ⟨aS, 1, none⟩ (.slice uo ul uc)).setCell ⟨aS, 2, none⟩ (.slice uO uL uC)).setCell ⟨aS, 3, none⟩ (.bool mu)).setCell ⟨aS, 4, none⟩ (.slice up uq ur)).setCell ⟨aS, 5, none⟩ (.slice uP uQ uR)) (.agg #[.bool ma, .slice ap aq ar, .slice aP aQ aR]) x' L ∧ ROwn (g + 1 + 1 + 1) ((((((x2.setCell ⟨aS, 0, none⟩ (.bool nu)).setCell ⟨aS, 1, none⟩ (.slice uo ul uc)).setCell ⟨aS, 2, none⟩ (.slice uO uL uC)).setCell ⟨aS, 3, none⟩ (.bool mu)).setCell ⟨aS, 4, none⟩ (.slice up uq ur)).setCell ⟨aS, 5, none⟩ (.slice uP uQ uR)) (.agg #[.bool nu, .slice uo ul uc, .slice uO uL uC]) (sp1 x (i + 1)) ∧ ROwn (g + 1 + 1 + 1) ((((((x2.setCell ⟨aS, 0, none⟩ (.bool nu)).setCell ⟨aS, 1, none⟩ (.slice uo ul uc)).setCell ⟨aS, 2, none⟩ (.slice uO uL uC)).setCell ⟨aS, 3, none⟩ (.bool mu)).setCell ⟨aS, 4, none⟩ (.slice up uq ur)).setCell ⟨aS, 5, none⟩ (.slice uP uQ uR)) (.agg #[.bool mu, .slice up uq ur, .slice uP uQ uR]) (sp2 x x' (i + 1)) ∧ Below g w ((((((x2.setCell ⟨aS, 0, none⟩ (.bool nu)).setCell ⟨aS, 1, none⟩ (.slice uo ul uc)).setCell ⟨aS, 2, none⟩ (.slice uO uL uC)).setCell ⟨aS, 3, none⟩ (.bool mu)).setCell ⟨aS, 4, none⟩ (.slice up uq ur)).setCell ⟨aS, 5, none⟩ (.slice uP uQ uR)) ∧ g + 1 + 1 + 1 ≤ ((((((x2.setCell ⟨aS, 0, none⟩ (.bool nu)).setCell ⟨aS, 1, none⟩ (.slice uo ul uc)).setCell ⟨aS, 2, none⟩ (.slice uO uL uC)).setCell ⟨aS, 3, none⟩ (.bool mu)).setCell ⟨aS, 4, none⟩ (.slice up uq ur)).setCell ⟨aS, 5, none⟩ (.slice uP uQ uR)).heap.size) := ⟨qS.write _ _ _ _ _ _, ((((((qR.other (by omega) 0 _).other (by omega) 1 _).other (by omega) 2 _).other (by omega) 3 _).other (by omega) 4 _).other (by omega) 5 _), ((((((qA.other (by omega) 0 _).other (by omega) 1 _).other (by omega) 2 _).other (by omega) 3 _).other (by omega) 4 _).other (by omega) 5 _), ha.boxW qS.nointS (set6_other _ _ _ _ _ _ _ _), ha2.boxW qS.nointS (set6_other _ _ _ _ _ _ _ _), ((((((hu.one (by omega) 0 _).one (by omega) 1 _).one (by omega) 2 _).one (by omega) 3 _).one (by omega) 4 _).one (by omega) 5 _).rehome (by omega), ((((((hu2.one (by omega) 0 _).one (by omega) 1 _).one (by omega) 2 _).one (by omega) 3 _).one (by omega) 4 _).one (by omega) 5 _).rehome (by omega), ((((((bw).setCell (p := ⟨aS, 0, none⟩) (by show g ≤ aS; omega) _).setCell (p := ⟨aS, 1, none⟩) (by show g ≤ aS; omega) _).setCell (p := ⟨aS, 2, none⟩) (by show g ≤ aS; omega) _).setCell (p := ⟨aS, 3, none⟩) (by show g ≤ aS; omega) _).setCell (p := ⟨aS, 4, none⟩) (by show g ≤ aS; omega) _).setCell (p := ⟨aS, 5, none⟩) (by show g ≤ aS; omega) _, by simpa [World.setCell] using zw⟩
      obtain ⟨y0, y1, y2, y3, y4, y5⟩ := qS.cells
      have f0 := qS.thaw 0
      have f1 := qS.thaw 1
      have f2 := qS.thaw 2
      have f3 := qS.thaw 3
      have f4 := qS.thaw 4
      have f5 := qS.thaw 5
      clear hu hu2 hls HLT HGE qS qA qR ha ha2 hv hv2 bw zw
      go_wp2_with fail
      go_roundg (n - (i + 1))
      case measure => omega
      case rel => exact ⟨i + 1, _, _, _, _, _, _, _, _, _, _, _, _, _, _, by go_num, by omega, Nat.le_refl _, HN⟩
    · have hltz : ¬ (i : Int) < (n : Int) := by omega
      have hie : i = n := by omega
      subst hie
      have HE : Hid (SlT w (sp1 x i) (sp2 x x' i) (.returned (.tuple #[.agg #[.bool nm, .slice mo ml mc, .slice mO mL mC, .bool mm, .slice mp mq mr, .slice mP mQ mR], .int .i64 0])) ((((((wr.setCell ⟨g + 1, 0, none⟩ (.bool nm)).setCell ⟨g + 1, 1, none⟩ (.slice mo ml mc)).setCell ⟨g + 1, 2, none⟩ (.slice mO mL mC)).setCell ⟨g + 1, 3, none⟩ (.bool mm)).setCell ⟨g + 1, 4, none⟩ (.slice mp mq mr)).setCell ⟨g + 1, 5, none⟩ (.slice mP mQ mR))) := ⟨_, _, _, _, _, _, _, _, _, _, _, _, _, _, rfl, (by rw [← HG.out]; exact ((((((hv.one (by omega) 0 _).one (by omega) 1 _).one (by omega) 2 _).one (by omega) 3 _).one (by omega) 4 _).one (by omega) 5 _).rehome (by omega)), (by rw [← HG.out]; exact ((((((hv2.one (by omega) 0 _).one (by omega) 1 _).one (by omega) 2 _).one (by omega) 3 _).one (by omega) 4 _).one (by omega) 5 _).rehome (by omega)), (by rw [← HG.out]; exact ((((((bw).setCell (p := ⟨g + 1, 0, none⟩) (by show g ≤ g + 1; omega) _).setCell (p := ⟨g + 1, 1, none⟩) (by show g ≤ g + 1; omega) _).setCell (p := ⟨g + 1, 2, none⟩) (by show g ≤ g + 1; omega) _).setCell (p := ⟨g + 1, 3, none⟩) (by show g ≤ g + 1; omega) _).setCell (p := ⟨g + 1, 4, none⟩) (by show g ≤ g + 1; omega) _).setCell (p := ⟨g + 1, 5, none⟩) (by show g ≤ g + 1; omega) _)⟩
      have HW : Hid (SlC ((((((wr.setCell ⟨g + 1, 0, none⟩ (.bool nm)).setCell ⟨g + 1, 1, none⟩ (.slice mo ml mc)).setCell ⟨g + 1, 2, none⟩ (.slice mO mL mC)).setCell ⟨g + 1, 3, none⟩ (.bool mm)).setCell ⟨g + 1, 4, none⟩ (.slice mp mq mr)).setCell ⟨g + 1, 5, none⟩ (.slice mP mQ mR)) (g + 1) nm (.slice mo ml mc) (.slice mO mL mC) mm (.slice mp mq mr) (.slice mP mQ mR)) := qR.write _ _ _ _ _ _
      obtain ⟨y0, y1, y2, y3, y4, y5⟩ := qR.cells
      obtain ⟨s0, s1, s2, s3, s4, s5⟩ := qS.cells
      have f0 := qR.thaw 0
      have f1 := qR.thaw 1
      have f2 := qR.thaw 2
      have f3 := qR.thaw 3
      have f4 := qR.thaw 4
      have f5 := qR.thaw 5
      clear qS qA qR ha ha2 hv hv2 bw zw
      go_wp2_with fail
      (try simp only [Exit.inBlock, Exit.then])
      exact bodyPost_ret (results_ct (p := 6) (u := 7) rfl _ _ (g + 1) 43 _ (0, 0) _ rfl HW.out Tryz.underlying43 rfl (by kernel_rfl)) rfl HE.out
end Go.Proofs.YtaafijifiiiblaaGreat
