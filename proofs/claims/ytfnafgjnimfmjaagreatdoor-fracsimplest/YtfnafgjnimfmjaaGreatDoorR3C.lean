/-
  Proved here: what Fit, Neg, Mul, Cmp, Sign, Lend, Kept and Text of the document's layer 3 answer.
-/
import Derived.Test.YtfnafgjnimfmjaaGreatDoorR3B
import Derived.Test.YtfnafgjnimfmjaaGreatDoorFracE
namespace Go.Proofs.YtfnafgjnimfmjaaGreatDoor
open Go.RowKit
attribute [local go_sem ↓] Go.wp_at_zero Go.wp_at_succ

set_option maxRecDepth 100000 in
set_option maxHeartbeats 6400000 in
theorem neg3 {p : Int} {q L : Nat} (na : Bool) (ao aO : Option Addr) (al ac aL aC : Nat)  {w : World} (ia : IB w (.agg #[.bool na, .slice ao al ac]) p L) (da : NB w (.slice aO aL aC) (q : Int) L) (h1L : 1 ≤ L)  (hL : L ≤ 150) : Calls Tryz.prog 42 #[.agg #[.bool na, .slice ao al ac, .slice aO aL aC]] w fun e w' => REnd w (-rq p q) e w' := by
  obtain ⟨Z, hZ⟩ : ∃ Z, Z = -rq p q := ⟨_, rfl⟩
  rw [← hZ]
  have HZ : Hid (Rat.divInt (-p) (und q) = Z) := by show _ = _; rw [hZ]; exact rq_neg p q
  clear hZ
  obtain ⟨W1, hW1⟩ : ∃ W1, W1 = (w.alloc (.cells #[.bool na, .slice ao al ac, .slice aO aL aC] 27)).alloc (.cells #[.bool false, .slice none 0 0, .slice none 0 0] 27) := ⟨_, rfl⟩
  have qa : QCell W1 (w.heap.size) na (.slice ao al ac) (.slice aO aL aC) := by rw [hW1]; exact (qcell_step (qcell_new _ (by simp)))
  have qR : QCell W1 (w.heap.size + 1) false (.slice none 0 0) (.slice none 0 0) := by rw [hW1]; exact (qcell_new _ (by simp))
  have hb : Below w.heap.size w W1 := by rw [hW1]; exact bstep (belowA w _) (belowA _ _)
  have hsz : w.heap.size + 1 < W1.heap.size := by rw [hW1]; simp
  replace da := da.below hb
  replace ia := ia.below hb
  have HW1 : Hid (W1 = (w.alloc (.cells #[.bool na, .slice ao al ac, .slice aO aL aC] 27)).alloc (.cells #[.bool false, .slice none 0 0, .slice none 0 0] 27)) := hW1
  clear hW1
  go_enter Tryz.func42, Tryz.ntmps42
  go_wp2_with fail
  rw [← HW1.out]
  clear HW1
  obtain ⟨g, hg⟩ : ∃ g, g = w.heap.size := ⟨_, rfl⟩
  rw [← hg] at qa qR hsz ⊢
  have HG : Hid (g = w.heap.size) := hg
  clear hg
  refine region_late [(1, fun w' => w'.cell? ⟨g, 0, none⟩ = some (.bool na) ∧ w'.cell? ⟨g, 1, none⟩ = some (.slice ao al ac)), (3, fun w' => w'.cell? ⟨g, 0, none⟩ = some (.bool na) ∧ w'.cell? ⟨g, 1, none⟩ = some (.slice ao al ac) ∧ w'.cell? ⟨g, 2, none⟩ = some (.slice aO aL aC))] (by kernel_rfl) ?_
  have hHeld : AllL W1.drew [(1, fun w' => w'.cell? ⟨g, 0, none⟩ = some (.bool na) ∧ w'.cell? ⟨g, 1, none⟩ = some (.slice ao al ac)), (3, fun w' => w'.cell? ⟨g, 0, none⟩ = some (.bool na) ∧ w'.cell? ⟨g, 1, none⟩ = some (.slice ao al ac) ∧ w'.cell? ⟨g, 2, none⟩ = some (.slice aO aL aC))] := ⟨⟨(show QCell W1.drew (g) na (.slice ao al ac) (.slice aO aL aC) from qa).cells.1, (show QCell W1.drew (g) na (.slice ao al ac) (.slice aO aL aC) from qa).cells.2.1⟩, (show QCell W1.drew (g) na (.slice ao al ac) (.slice aO aL aC) from qa).cells, trivial⟩
  refine late_fr 0 (v := .pointer (some ⟨g, 0, none⟩)) rfl (Or.inl ⟨by rfl, ?_⟩) hHeld ?_
  · (intro u _; go_simp)
  (try simp only [Act.put, putA, putB, putC])
  refine late_tk 1 (v := .agg #[.bool na, .slice ao al ac]) rfl (List.Mem.head _) (Or.inl ⟨by rfl, ?_⟩) hHeld ?_
  · (intro u hu; (try dsimp only at hu); go_split_ands; go_simp)
  (try simp only [Act.put, putA, putB, putC])
  refine late_tk 3 (v := .agg #[.bool na, .slice ao al ac, .slice aO aL aC]) rfl (List.Mem.tail _ (List.Mem.head _)) (Or.inl ⟨by rfl, ?_⟩) hHeld ?_
  · (intro u hu; (try dsimp only at hu); go_split_ands; go_simp)
  (try simp only [Act.put, putA, putB, putC])
  refine late_st 2 rfl (fun K hK => ?_)
  go_simp
  refine (rnegB (ia.below (below_drew' _)) (by omega)).mono ?_
  rintro e w2 ⟨nm5, m5o, m5l, m5c, rfl, im5, b2⟩
  have B2 : Below W1.heap.size W1 w2 := bstep (below_drew' _) b2
  clear hHeld
  have hHeld : AllL w2 [(1, fun w' => w'.cell? ⟨g, 0, none⟩ = some (.bool na) ∧ w'.cell? ⟨g, 1, none⟩ = some (.slice ao al ac)), (3, fun w' => w'.cell? ⟨g, 0, none⟩ = some (.bool na) ∧ w'.cell? ⟨g, 1, none⟩ = some (.slice ao al ac) ∧ w'.cell? ⟨g, 2, none⟩ = some (.slice aO aL aC))] := ⟨⟨(qa.below B2).cells.1, (qa.below B2).cells.2.1⟩, (qa.below B2).cells, trivial⟩
  go_wp2_with fail
  refine hK.out _ _ (AllL.kept hHeld) ?_
  clear hK K
  (try simp only [Act.put, putA, putB, putC])
  refine late_st 4 rfl (fun K hK => ?_)
  go_simp
  refine (den3 ((da.below (below_drew' _)).below b2) ⟨h1L, by omega⟩).mono ?_
  rintro e w3 ⟨m7o, m7l, m7c, rfl, im7, b3⟩
  have B3 : Below W1.heap.size W1 w3 := bstep B2 b3
  clear hHeld
  have hHeld : AllL w3 [(1, fun w' => w'.cell? ⟨g, 0, none⟩ = some (.bool na) ∧ w'.cell? ⟨g, 1, none⟩ = some (.slice ao al ac)), (3, fun w' => w'.cell? ⟨g, 0, none⟩ = some (.bool na) ∧ w'.cell? ⟨g, 1, none⟩ = some (.slice ao al ac) ∧ w'.cell? ⟨g, 2, none⟩ = some (.slice aO aL aC))] := ⟨⟨(qa.below B3).cells.1, (qa.below B3).cells.2.1⟩, (qa.below B3).cells, trivial⟩
  go_wp2_with fail
  refine hK.out _ _ (AllL.kept hHeld) ?_
  clear hK K
  (try simp only [Act.put, putA, putB, putC])
  refine late_st 5 rfl (fun K hK => ?_)
  go_simp
  have hq := lowB (im5.below b3) im7 (by omega) (by omega) (und_ne _)
  rw [HZ.out] at hq
  refine hq.mono ?_
  rintro e w4 ⟨v, rfl, hv, b4⟩
  clear hq
  obtain ⟨m, d, rfl, hm, hd, hap⟩ := hv
  obtain ⟨mo, ml, mc, rfl⟩ := hm.sl
  obtain ⟨mO, mL, mC, rfl⟩ := hd.sl
  have B4 : Below W1.heap.size W1 w4 := bstep B3 b4
  clear hHeld
  have hHeld : AllL w4 [(1, fun w' => w'.cell? ⟨g, 0, none⟩ = some (.bool na) ∧ w'.cell? ⟨g, 1, none⟩ = some (.slice ao al ac)), (3, fun w' => w'.cell? ⟨g, 0, none⟩ = some (.bool na) ∧ w'.cell? ⟨g, 1, none⟩ = some (.slice ao al ac) ∧ w'.cell? ⟨g, 2, none⟩ = some (.slice aO aL aC))] := ⟨⟨(qa.below B4).cells.1, (qa.below B4).cells.2.1⟩, (qa.below B4).cells, trivial⟩
  go_wp2_with fail
  refine hK.out _ _ (AllL.kept hHeld) ?_
  clear hK K
  (try simp only [Act.put, putA, putB, putC])
  have qq := qR.below B4
  have HE : Hid (REnd w Z (.returned (.agg #[.bool (decide (Z.num < 0)), .slice mo ml mc, .slice mO mL mC])) (((w4.setCell ⟨g + 1, 0, none⟩ (.bool (decide (Z.num < 0)))).setCell ⟨g + 1, 1, none⟩ (.slice mo ml mc)).setCell ⟨g + 1, 2, none⟩ (.slice mO mL mC))) := rat_done rfl (by rw [HG.out]; omega) hm hd hap (Nat.lt_of_lt_of_le hsz B3.size) (bstep hb B4)
  have HW : Hid (QCell (((w4.setCell ⟨g + 1, 0, none⟩ (.bool (decide (Z.num < 0)))).setCell ⟨g + 1, 1, none⟩ (.slice mo ml mc)).setCell ⟨g + 1, 2, none⟩ (.slice mO mL mC)) (g + 1) (decide (Z.num < 0)) (.slice mo ml mc) (.slice mO mL mC)) := qq.write _ _ _
  obtain ⟨y0, y1, y2⟩ := qq.cells
  have f0 := qq.thaw 0
  have f1 := qq.thaw 1
  have f2 := qq.thaw 2
  generalize decide (Z.num < 0) = bb at *
  clear qq hap
  clear im5 im7
  refine late_st 6 rfl (fun K hK => ?_)
  go_simp
  refine hK.out _ _ ⟨kpt 2, kpt 4, trivial⟩ ?_
  clear hK K
  (try simp only [Act.put, putA, putB, putC])
  refine late_done (by kernel_rfl) ?_ _
  clear hHeld
  clear hb hsz hm hd qa qR ia da b2 b3 b4 B2 B3 B4 
  go_wp2_with fail
  (try simp only [Exit.inBlock, Exit.then])
  exact bodyPost_ret (results_cell_row rfl _ _ (g + 1) 27 _ (0, 0) _ rfl HW.out Tryz.underlying27 rfl (by kernel_rfl)) rfl HE.out
set_option maxRecDepth 100000 in
set_option maxHeartbeats 6400000 in
theorem mul3 {p r : Int} {q k L M : Nat} (na : Bool) (ao aO : Option Addr) (al ac aL aC : Nat) (nb : Bool) (bo bO : Option Addr) (bl bc bL bC : Nat) {w : World} (ia : IB w (.agg #[.bool na, .slice ao al ac]) p L) (da : NB w (.slice aO aL aC) (q : Int) L) (h1L : 1 ≤ L) (ib : IB w (.agg #[.bool nb, .slice bo bl bc]) r M) (db : NB w (.slice bO bL bC) (k : Int) M) (h1M : 1 ≤ M) (hL : L + M ≤ 300) : Calls Tryz.prog 66 #[.agg #[.bool na, .slice ao al ac, .slice aO aL aC], .agg #[.bool nb, .slice bo bl bc, .slice bO bL bC]] w fun e w' => REnd w (rq p q * rq r k) e w' := by
  obtain ⟨Z, hZ⟩ : ∃ Z, Z = rq p q * rq r k := ⟨_, rfl⟩
  rw [← hZ]
  have HZ : Hid (Rat.divInt (p * r) (und q * und k) = Z) := by show _ = _; rw [hZ]; exact rq_mul p r q k
  clear hZ
  obtain ⟨W1, hW1⟩ : ∃ W1, W1 = ((w.alloc (.cells #[.bool na, .slice ao al ac, .slice aO aL aC] 27)).alloc (.cells #[.bool nb, .slice bo bl bc, .slice bO bL bC] 27)).alloc (.cells #[.bool false, .slice none 0 0, .slice none 0 0] 27) := ⟨_, rfl⟩
  have qa : QCell W1 (w.heap.size) na (.slice ao al ac) (.slice aO aL aC) := by rw [hW1]; exact (qcell_step (qcell_step (qcell_new _ (by simp))))
  have qb : QCell W1 (w.heap.size + 1) nb (.slice bo bl bc) (.slice bO bL bC) := by rw [hW1]; exact (qcell_step (qcell_new _ (by simp)))
  have qR : QCell W1 (w.heap.size + 1 + 1) false (.slice none 0 0) (.slice none 0 0) := by rw [hW1]; exact (qcell_new _ (by simp))
  have hb : Below w.heap.size w W1 := by rw [hW1]; exact bstep (bstep (belowA w _) (belowA _ _)) (belowA _ _)
  have hsz : w.heap.size + 1 + 1 < W1.heap.size := by rw [hW1]; simp
  replace db := db.below hb
  replace da := da.below hb
  replace ia := ia.below hb
  replace ib := ib.below hb
  have HW1 : Hid (W1 = ((w.alloc (.cells #[.bool na, .slice ao al ac, .slice aO aL aC] 27)).alloc (.cells #[.bool nb, .slice bo bl bc, .slice bO bL bC] 27)).alloc (.cells #[.bool false, .slice none 0 0, .slice none 0 0] 27)) := hW1
  clear hW1
  go_enter Tryz.func66, Tryz.ntmps66
  go_wp2_with fail
  rw [← HW1.out]
  clear HW1
  obtain ⟨g, hg⟩ : ∃ g, g = w.heap.size := ⟨_, rfl⟩
  rw [← hg] at qa qb qR hsz ⊢
  have HG : Hid (g = w.heap.size) := hg
  clear hg
  refine region_late [(1, fun w' => w'.cell? ⟨g, 0, none⟩ = some (.bool na) ∧ w'.cell? ⟨g, 1, none⟩ = some (.slice ao al ac)), (3, fun w' => w'.cell? ⟨g + 1, 0, none⟩ = some (.bool nb) ∧ w'.cell? ⟨g + 1, 1, none⟩ = some (.slice bo bl bc)), (5, fun w' => w'.cell? ⟨g, 0, none⟩ = some (.bool na) ∧ w'.cell? ⟨g, 1, none⟩ = some (.slice ao al ac) ∧ w'.cell? ⟨g, 2, none⟩ = some (.slice aO aL aC)), (7, fun w' => w'.cell? ⟨g + 1, 0, none⟩ = some (.bool nb) ∧ w'.cell? ⟨g + 1, 1, none⟩ = some (.slice bo bl bc) ∧ w'.cell? ⟨g + 1, 2, none⟩ = some (.slice bO bL bC))] (by kernel_rfl) ?_
  have hHeld : AllL W1.drew [(1, fun w' => w'.cell? ⟨g, 0, none⟩ = some (.bool na) ∧ w'.cell? ⟨g, 1, none⟩ = some (.slice ao al ac)), (3, fun w' => w'.cell? ⟨g + 1, 0, none⟩ = some (.bool nb) ∧ w'.cell? ⟨g + 1, 1, none⟩ = some (.slice bo bl bc)), (5, fun w' => w'.cell? ⟨g, 0, none⟩ = some (.bool na) ∧ w'.cell? ⟨g, 1, none⟩ = some (.slice ao al ac) ∧ w'.cell? ⟨g, 2, none⟩ = some (.slice aO aL aC)), (7, fun w' => w'.cell? ⟨g + 1, 0, none⟩ = some (.bool nb) ∧ w'.cell? ⟨g + 1, 1, none⟩ = some (.slice bo bl bc) ∧ w'.cell? ⟨g + 1, 2, none⟩ = some (.slice bO bL bC))] := ⟨⟨(show QCell W1.drew (g) na (.slice ao al ac) (.slice aO aL aC) from qa).cells.1, (show QCell W1.drew (g) na (.slice ao al ac) (.slice aO aL aC) from qa).cells.2.1⟩, ⟨(show QCell W1.drew (g + 1) nb (.slice bo bl bc) (.slice bO bL bC) from qb).cells.1, (show QCell W1.drew (g + 1) nb (.slice bo bl bc) (.slice bO bL bC) from qb).cells.2.1⟩, (show QCell W1.drew (g) na (.slice ao al ac) (.slice aO aL aC) from qa).cells, (show QCell W1.drew (g + 1) nb (.slice bo bl bc) (.slice bO bL bC) from qb).cells, trivial⟩
  refine late_fr 0 (v := .pointer (some ⟨g, 0, none⟩)) rfl (Or.inl ⟨by rfl, ?_⟩) hHeld ?_
  · (intro u _; go_simp)
  (try simp only [Act.put, putA, putB, putC])
  refine late_tk 1 (v := .agg #[.bool na, .slice ao al ac]) rfl (List.Mem.head _) (Or.inl ⟨by rfl, ?_⟩) hHeld ?_
  · (intro u hu; (try dsimp only at hu); go_split_ands; go_simp)
  (try simp only [Act.put, putA, putB, putC])
  refine late_fr 2 (v := .pointer (some ⟨g + 1, 0, none⟩)) rfl (Or.inl ⟨by rfl, ?_⟩) hHeld ?_
  · (intro u _; go_simp)
  (try simp only [Act.put, putA, putB, putC])
  refine late_tk 3 (v := .agg #[.bool nb, .slice bo bl bc]) rfl (List.Mem.tail _ (List.Mem.head _)) (Or.inl ⟨by rfl, ?_⟩) hHeld ?_
  · (intro u hu; (try dsimp only at hu); go_split_ands; go_simp)
  (try simp only [Act.put, putA, putB, putC])
  refine late_tk 5 (v := .agg #[.bool na, .slice ao al ac, .slice aO aL aC]) rfl (List.Mem.tail _ (List.Mem.tail _ (List.Mem.head _))) (Or.inl ⟨by rfl, ?_⟩) hHeld ?_
  · (intro u hu; (try dsimp only at hu); go_split_ands; go_simp)
  (try simp only [Act.put, putA, putB, putC])
  refine late_tk 7 (v := .agg #[.bool nb, .slice bo bl bc, .slice bO bL bC]) rfl (List.Mem.tail _ (List.Mem.tail _ (List.Mem.tail _ (List.Mem.head _)))) (Or.inl ⟨by rfl, ?_⟩) hHeld ?_
  · (intro u hu; (try dsimp only at hu); go_split_ands; go_simp)
  (try simp only [Act.put, putA, putB, putC])
  refine late_st 4 rfl (fun K hK => ?_)
  go_simp
  refine (rmulB (ia.below (below_drew' _)) (ib.below (below_drew' _)) (by omega)).mono ?_
  rintro e w2 ⟨nm9, m9o, m9l, m9c, rfl, im9, b2⟩
  have B2 : Below W1.heap.size W1 w2 := bstep (below_drew' _) b2
  clear hHeld
  have hHeld : AllL w2 [(1, fun w' => w'.cell? ⟨g, 0, none⟩ = some (.bool na) ∧ w'.cell? ⟨g, 1, none⟩ = some (.slice ao al ac)), (3, fun w' => w'.cell? ⟨g + 1, 0, none⟩ = some (.bool nb) ∧ w'.cell? ⟨g + 1, 1, none⟩ = some (.slice bo bl bc)), (5, fun w' => w'.cell? ⟨g, 0, none⟩ = some (.bool na) ∧ w'.cell? ⟨g, 1, none⟩ = some (.slice ao al ac) ∧ w'.cell? ⟨g, 2, none⟩ = some (.slice aO aL aC)), (7, fun w' => w'.cell? ⟨g + 1, 0, none⟩ = some (.bool nb) ∧ w'.cell? ⟨g + 1, 1, none⟩ = some (.slice bo bl bc) ∧ w'.cell? ⟨g + 1, 2, none⟩ = some (.slice bO bL bC))] := ⟨⟨(qa.below B2).cells.1, (qa.below B2).cells.2.1⟩, ⟨(qb.below B2).cells.1, (qb.below B2).cells.2.1⟩, (qa.below B2).cells, (qb.below B2).cells, trivial⟩
  go_wp2_with fail
  refine hK.out _ _ (AllL.kept hHeld) ?_
  clear hK K
  (try simp only [Act.put, putA, putB, putC])
  refine late_st 6 rfl (fun K hK => ?_)
  go_simp
  refine (den3 ((da.below (below_drew' _)).below b2) ⟨h1L, by omega⟩).mono ?_
  rintro e w3 ⟨m11o, m11l, m11c, rfl, im11, b3⟩
  have B3 : Below W1.heap.size W1 w3 := bstep B2 b3
  clear hHeld
  have hHeld : AllL w3 [(1, fun w' => w'.cell? ⟨g, 0, none⟩ = some (.bool na) ∧ w'.cell? ⟨g, 1, none⟩ = some (.slice ao al ac)), (3, fun w' => w'.cell? ⟨g + 1, 0, none⟩ = some (.bool nb) ∧ w'.cell? ⟨g + 1, 1, none⟩ = some (.slice bo bl bc)), (5, fun w' => w'.cell? ⟨g, 0, none⟩ = some (.bool na) ∧ w'.cell? ⟨g, 1, none⟩ = some (.slice ao al ac) ∧ w'.cell? ⟨g, 2, none⟩ = some (.slice aO aL aC)), (7, fun w' => w'.cell? ⟨g + 1, 0, none⟩ = some (.bool nb) ∧ w'.cell? ⟨g + 1, 1, none⟩ = some (.slice bo bl bc) ∧ w'.cell? ⟨g + 1, 2, none⟩ = some (.slice bO bL bC))] := ⟨⟨(qa.below B3).cells.1, (qa.below B3).cells.2.1⟩, ⟨(qb.below B3).cells.1, (qb.below B3).cells.2.1⟩, (qa.below B3).cells, (qb.below B3).cells, trivial⟩
  go_wp2_with fail
  refine hK.out _ _ (AllL.kept hHeld) ?_
  clear hK K
  (try simp only [Act.put, putA, putB, putC])
  refine late_st 8 rfl (fun K hK => ?_)
  go_simp
  refine (den3 (((db.below (below_drew' _)).below b2).below b3) ⟨h1M, by omega⟩).mono ?_
  rintro e w4 ⟨m13o, m13l, m13c, rfl, im13, b4⟩
  have B4 : Below W1.heap.size W1 w4 := bstep B3 b4
  clear hHeld
  have hHeld : AllL w4 [(1, fun w' => w'.cell? ⟨g, 0, none⟩ = some (.bool na) ∧ w'.cell? ⟨g, 1, none⟩ = some (.slice ao al ac)), (3, fun w' => w'.cell? ⟨g + 1, 0, none⟩ = some (.bool nb) ∧ w'.cell? ⟨g + 1, 1, none⟩ = some (.slice bo bl bc)), (5, fun w' => w'.cell? ⟨g, 0, none⟩ = some (.bool na) ∧ w'.cell? ⟨g, 1, none⟩ = some (.slice ao al ac) ∧ w'.cell? ⟨g, 2, none⟩ = some (.slice aO aL aC)), (7, fun w' => w'.cell? ⟨g + 1, 0, none⟩ = some (.bool nb) ∧ w'.cell? ⟨g + 1, 1, none⟩ = some (.slice bo bl bc) ∧ w'.cell? ⟨g + 1, 2, none⟩ = some (.slice bO bL bC))] := ⟨⟨(qa.below B4).cells.1, (qa.below B4).cells.2.1⟩, ⟨(qb.below B4).cells.1, (qb.below B4).cells.2.1⟩, (qa.below B4).cells, (qb.below B4).cells, trivial⟩
  go_wp2_with fail
  refine hK.out _ _ (AllL.kept hHeld) ?_
  clear hK K
  (try simp only [Act.put, putA, putB, putC])
  refine late_st 9 rfl (fun K hK => ?_)
  go_simp
  refine (nmulB (im11.below b4) im13 (by omega)).mono ?_
  rintro e w5 ⟨m14o, m14l, m14c, rfl, im14, b5⟩
  have B5 : Below W1.heap.size W1 w5 := bstep B4 b5
  clear hHeld
  have hHeld : AllL w5 [(1, fun w' => w'.cell? ⟨g, 0, none⟩ = some (.bool na) ∧ w'.cell? ⟨g, 1, none⟩ = some (.slice ao al ac)), (3, fun w' => w'.cell? ⟨g + 1, 0, none⟩ = some (.bool nb) ∧ w'.cell? ⟨g + 1, 1, none⟩ = some (.slice bo bl bc)), (5, fun w' => w'.cell? ⟨g, 0, none⟩ = some (.bool na) ∧ w'.cell? ⟨g, 1, none⟩ = some (.slice ao al ac) ∧ w'.cell? ⟨g, 2, none⟩ = some (.slice aO aL aC)), (7, fun w' => w'.cell? ⟨g + 1, 0, none⟩ = some (.bool nb) ∧ w'.cell? ⟨g + 1, 1, none⟩ = some (.slice bo bl bc) ∧ w'.cell? ⟨g + 1, 2, none⟩ = some (.slice bO bL bC))] := ⟨⟨(qa.below B5).cells.1, (qa.below B5).cells.2.1⟩, ⟨(qb.below B5).cells.1, (qb.below B5).cells.2.1⟩, (qa.below B5).cells, (qb.below B5).cells, trivial⟩
  go_wp2_with fail
  refine hK.out _ _ (AllL.kept hHeld) ?_
  clear hK K
  (try simp only [Act.put, putA, putB, putC])
  refine late_st 10 rfl (fun K hK => ?_)
  go_simp
  have hq := lowB (((im9.below b3).below b4).below b5) im14 (by omega) (by omega) (und_mul_ne _ _)
  rw [HZ.out] at hq
  refine hq.mono ?_
  rintro e w6 ⟨v, rfl, hv, b6⟩
  clear hq
  obtain ⟨m, d, rfl, hm, hd, hap⟩ := hv
  obtain ⟨mo, ml, mc, rfl⟩ := hm.sl
  obtain ⟨mO, mL, mC, rfl⟩ := hd.sl
  have B6 : Below W1.heap.size W1 w6 := bstep B5 b6
  clear hHeld
  have hHeld : AllL w6 [(1, fun w' => w'.cell? ⟨g, 0, none⟩ = some (.bool na) ∧ w'.cell? ⟨g, 1, none⟩ = some (.slice ao al ac)), (3, fun w' => w'.cell? ⟨g + 1, 0, none⟩ = some (.bool nb) ∧ w'.cell? ⟨g + 1, 1, none⟩ = some (.slice bo bl bc)), (5, fun w' => w'.cell? ⟨g, 0, none⟩ = some (.bool na) ∧ w'.cell? ⟨g, 1, none⟩ = some (.slice ao al ac) ∧ w'.cell? ⟨g, 2, none⟩ = some (.slice aO aL aC)), (7, fun w' => w'.cell? ⟨g + 1, 0, none⟩ = some (.bool nb) ∧ w'.cell? ⟨g + 1, 1, none⟩ = some (.slice bo bl bc) ∧ w'.cell? ⟨g + 1, 2, none⟩ = some (.slice bO bL bC))] := ⟨⟨(qa.below B6).cells.1, (qa.below B6).cells.2.1⟩, ⟨(qb.below B6).cells.1, (qb.below B6).cells.2.1⟩, (qa.below B6).cells, (qb.below B6).cells, trivial⟩
  go_wp2_with fail
  refine hK.out _ _ (AllL.kept hHeld) ?_
  clear hK K
  (try simp only [Act.put, putA, putB, putC])
  have qq := qR.below B6
  have HE : Hid (REnd w Z (.returned (.agg #[.bool (decide (Z.num < 0)), .slice mo ml mc, .slice mO mL mC])) (((w6.setCell ⟨g + 1 + 1, 0, none⟩ (.bool (decide (Z.num < 0)))).setCell ⟨g + 1 + 1, 1, none⟩ (.slice mo ml mc)).setCell ⟨g + 1 + 1, 2, none⟩ (.slice mO mL mC))) := rat_done rfl (by rw [HG.out]; omega) hm hd hap (Nat.lt_of_lt_of_le hsz B5.size) (bstep hb B6)
  have HW : Hid (QCell (((w6.setCell ⟨g + 1 + 1, 0, none⟩ (.bool (decide (Z.num < 0)))).setCell ⟨g + 1 + 1, 1, none⟩ (.slice mo ml mc)).setCell ⟨g + 1 + 1, 2, none⟩ (.slice mO mL mC)) (g + 1 + 1) (decide (Z.num < 0)) (.slice mo ml mc) (.slice mO mL mC)) := qq.write _ _ _
  obtain ⟨y0, y1, y2⟩ := qq.cells
  have f0 := qq.thaw 0
  have f1 := qq.thaw 1
  have f2 := qq.thaw 2
  generalize decide (Z.num < 0) = bb at *
  clear qq hap
  clear im9 im11 im13 im14
  refine late_st 11 rfl (fun K hK => ?_)
  go_simp
  refine hK.out _ _ ⟨kpt 4, kpt 4, kpt 6, kpt 8, trivial⟩ ?_
  clear hK K
  (try simp only [Act.put, putA, putB, putC])
  refine late_done (by kernel_rfl) ?_ _
  clear hHeld
  clear hb hsz hm hd qa qb qR ia ib da db b2 b3 b4 b5 b6 B2 B3 B4 B5 B6 
  go_wp2_with fail
  (try simp only [Exit.inBlock, Exit.then])
  exact bodyPost_ret (results_cell_row rfl _ _ (g + 1 + 1) 27 _ (0, 0) _ rfl HW.out Tryz.underlying27 rfl (by kernel_rfl)) rfl HE.out
set_option maxRecDepth 100000 in
set_option maxHeartbeats 6400000 in
theorem cmp3 {p r : Int} {q k L M : Nat} (na : Bool) (ao aO : Option Addr) (al ac aL aC : Nat) (nb : Bool) (bo bO : Option Addr) (bl bc bL bC : Nat) {w : World} (ia : IB w (.agg #[.bool na, .slice ao al ac]) p L) (da : NB w (.slice aO aL aC) (q : Int) L) (h1L : 1 ≤ L) (ib : IB w (.agg #[.bool nb, .slice bo bl bc]) r M) (db : NB w (.slice bO bL bC) (k : Int) M) (h1M : 1 ≤ M) (hL : L + M ≤ 300) : Calls Tryz.prog 41 #[.agg #[.bool na, .slice ao al ac, .slice aO aL aC], .agg #[.bool nb, .slice bo bl bc, .slice bO bL bC]] w fun e w' => e = .returned (.int .i64 (cmpQ (rq p q) (rq r k))) ∧ Below w.heap.size w w' := by
  obtain ⟨c, hc⟩ : ∃ c, c = cmpQ (rq p q) (rq r k) := ⟨_, rfl⟩
  rw [← hc]
  have HC : Hid (cmpZ (p * und k) (r * und q) = c) := by show _ = _; rw [hc]; exact cmp_rq p r q k
  clear hc
  obtain ⟨W1, hW1⟩ : ∃ W1, W1 = (w.alloc (.cells #[.bool na, .slice ao al ac, .slice aO aL aC] 27)).alloc (.cells #[.bool nb, .slice bo bl bc, .slice bO bL bC] 27) := ⟨_, rfl⟩
  have qa : QCell W1 (w.heap.size) na (.slice ao al ac) (.slice aO aL aC) := by rw [hW1]; exact (qcell_step (qcell_new _ (by simp)))
  have qb : QCell W1 (w.heap.size + 1) nb (.slice bo bl bc) (.slice bO bL bC) := by rw [hW1]; exact (qcell_new _ (by simp))
  have hb : Below w.heap.size w W1 := by rw [hW1]; exact bstep (belowA w _) (belowA _ _)
  have hsz : w.heap.size + 1 < W1.heap.size := by rw [hW1]; simp
  replace db := db.below hb
  replace da := da.below hb
  replace ia := ia.below hb
  replace ib := ib.below hb
  have HW1 : Hid (W1 = (w.alloc (.cells #[.bool na, .slice ao al ac, .slice aO aL aC] 27)).alloc (.cells #[.bool nb, .slice bo bl bc, .slice bO bL bC] 27)) := hW1
  clear hW1
  go_enter Tryz.func41, Tryz.ntmps41
  go_wp2_with fail
  rw [← HW1.out]
  clear HW1
  obtain ⟨g, hg⟩ : ∃ g, g = w.heap.size := ⟨_, rfl⟩
  rw [← hg] at qa qb hsz ⊢
  have HG : Hid (g = w.heap.size) := hg
  clear hg
  refine region_late [(1, fun w' => w'.cell? ⟨g, 0, none⟩ = some (.bool na) ∧ w'.cell? ⟨g, 1, none⟩ = some (.slice ao al ac)), (2, fun w' => w'.cell? ⟨g + 1, 0, none⟩ = some (.bool nb) ∧ w'.cell? ⟨g + 1, 1, none⟩ = some (.slice bo bl bc) ∧ w'.cell? ⟨g + 1, 2, none⟩ = some (.slice bO bL bC)), (7, fun w' => w'.cell? ⟨g + 1, 0, none⟩ = some (.bool nb) ∧ w'.cell? ⟨g + 1, 1, none⟩ = some (.slice bo bl bc)), (8, fun w' => w'.cell? ⟨g, 0, none⟩ = some (.bool na) ∧ w'.cell? ⟨g, 1, none⟩ = some (.slice ao al ac) ∧ w'.cell? ⟨g, 2, none⟩ = some (.slice aO aL aC))] (by kernel_rfl) ?_
  have hHeld : AllL W1.drew [(1, fun w' => w'.cell? ⟨g, 0, none⟩ = some (.bool na) ∧ w'.cell? ⟨g, 1, none⟩ = some (.slice ao al ac)), (2, fun w' => w'.cell? ⟨g + 1, 0, none⟩ = some (.bool nb) ∧ w'.cell? ⟨g + 1, 1, none⟩ = some (.slice bo bl bc) ∧ w'.cell? ⟨g + 1, 2, none⟩ = some (.slice bO bL bC)), (7, fun w' => w'.cell? ⟨g + 1, 0, none⟩ = some (.bool nb) ∧ w'.cell? ⟨g + 1, 1, none⟩ = some (.slice bo bl bc)), (8, fun w' => w'.cell? ⟨g, 0, none⟩ = some (.bool na) ∧ w'.cell? ⟨g, 1, none⟩ = some (.slice ao al ac) ∧ w'.cell? ⟨g, 2, none⟩ = some (.slice aO aL aC))] := ⟨⟨(show QCell W1.drew (g) na (.slice ao al ac) (.slice aO aL aC) from qa).cells.1, (show QCell W1.drew (g) na (.slice ao al ac) (.slice aO aL aC) from qa).cells.2.1⟩, (show QCell W1.drew (g + 1) nb (.slice bo bl bc) (.slice bO bL bC) from qb).cells, ⟨(show QCell W1.drew (g + 1) nb (.slice bo bl bc) (.slice bO bL bC) from qb).cells.1, (show QCell W1.drew (g + 1) nb (.slice bo bl bc) (.slice bO bL bC) from qb).cells.2.1⟩, (show QCell W1.drew (g) na (.slice ao al ac) (.slice aO aL aC) from qa).cells, trivial⟩
  refine late_fr 0 (v := .pointer (some ⟨g, 0, none⟩)) rfl (Or.inl ⟨by rfl, ?_⟩) hHeld ?_
  · (intro u _; go_simp)
  (try simp only [Act.put, putA, putB, putC])
  refine late_tk 1 (v := .agg #[.bool na, .slice ao al ac]) rfl (List.Mem.head _) (Or.inl ⟨by rfl, ?_⟩) hHeld ?_
  · (intro u hu; (try dsimp only at hu); go_split_ands; go_simp)
  (try simp only [Act.put, putA, putB, putC])
  refine late_tk 2 (v := .agg #[.bool nb, .slice bo bl bc, .slice bO bL bC]) rfl (List.Mem.tail _ (List.Mem.head _)) (Or.inl ⟨by rfl, ?_⟩) hHeld ?_
  · (intro u hu; (try dsimp only at hu); go_split_ands; go_simp)
  (try simp only [Act.put, putA, putB, putC])
  refine late_fr 6 (v := .pointer (some ⟨g + 1, 0, none⟩)) rfl (Or.inl ⟨by rfl, ?_⟩) hHeld ?_
  · (intro u _; go_simp)
  (try simp only [Act.put, putA, putB, putC])
  refine late_tk 7 (v := .agg #[.bool nb, .slice bo bl bc]) rfl (List.Mem.tail _ (List.Mem.tail _ (List.Mem.head _))) (Or.inl ⟨by rfl, ?_⟩) hHeld ?_
  · (intro u hu; (try dsimp only at hu); go_split_ands; go_simp)
  (try simp only [Act.put, putA, putB, putC])
  refine late_tk 8 (v := .agg #[.bool na, .slice ao al ac, .slice aO aL aC]) rfl (List.Mem.tail _ (List.Mem.tail _ (List.Mem.tail _ (List.Mem.head _)))) (Or.inl ⟨by rfl, ?_⟩) hHeld ?_
  · (intro u hu; (try dsimp only at hu); go_split_ands; go_simp)
  (try simp only [Act.put, putA, putB, putC])
  refine late_st 3 rfl (fun K hK => ?_)
  go_simp
  refine (den3 (db.below (below_drew' _)) ⟨h1M, by omega⟩).mono ?_
  rintro e w2 ⟨m8o, m8l, m8c, rfl, im8, b2⟩
  have B2 : Below W1.heap.size W1 w2 := bstep (below_drew' _) b2
  clear hHeld
  have hHeld : AllL w2 [(1, fun w' => w'.cell? ⟨g, 0, none⟩ = some (.bool na) ∧ w'.cell? ⟨g, 1, none⟩ = some (.slice ao al ac)), (2, fun w' => w'.cell? ⟨g + 1, 0, none⟩ = some (.bool nb) ∧ w'.cell? ⟨g + 1, 1, none⟩ = some (.slice bo bl bc) ∧ w'.cell? ⟨g + 1, 2, none⟩ = some (.slice bO bL bC)), (7, fun w' => w'.cell? ⟨g + 1, 0, none⟩ = some (.bool nb) ∧ w'.cell? ⟨g + 1, 1, none⟩ = some (.slice bo bl bc)), (8, fun w' => w'.cell? ⟨g, 0, none⟩ = some (.bool na) ∧ w'.cell? ⟨g, 1, none⟩ = some (.slice ao al ac) ∧ w'.cell? ⟨g, 2, none⟩ = some (.slice aO aL aC))] := ⟨⟨(qa.below B2).cells.1, (qa.below B2).cells.2.1⟩, (qb.below B2).cells, ⟨(qb.below B2).cells.1, (qb.below B2).cells.2.1⟩, (qa.below B2).cells, trivial⟩
  go_wp2_with fail
  refine hK.out _ _ (AllL.kept hHeld) ?_
  clear hK K
  (try simp only [Act.put, putA, putB, putC])
  refine late_st 4 rfl (fun K hK => ?_)
  go_simp
  have im9 := (im8).ib
  refine (whole3 _ _ _ _).mono ?_
  rintro e w3 ⟨rfl, b3⟩
  replace im9 := im9.below b3
  have B3 : Below W1.heap.size W1 w3 := bstep B2 b3
  clear hHeld
  have hHeld : AllL w3 [(1, fun w' => w'.cell? ⟨g, 0, none⟩ = some (.bool na) ∧ w'.cell? ⟨g, 1, none⟩ = some (.slice ao al ac)), (2, fun w' => w'.cell? ⟨g + 1, 0, none⟩ = some (.bool nb) ∧ w'.cell? ⟨g + 1, 1, none⟩ = some (.slice bo bl bc) ∧ w'.cell? ⟨g + 1, 2, none⟩ = some (.slice bO bL bC)), (7, fun w' => w'.cell? ⟨g + 1, 0, none⟩ = some (.bool nb) ∧ w'.cell? ⟨g + 1, 1, none⟩ = some (.slice bo bl bc)), (8, fun w' => w'.cell? ⟨g, 0, none⟩ = some (.bool na) ∧ w'.cell? ⟨g, 1, none⟩ = some (.slice ao al ac) ∧ w'.cell? ⟨g, 2, none⟩ = some (.slice aO aL aC))] := ⟨⟨(qa.below B3).cells.1, (qa.below B3).cells.2.1⟩, (qb.below B3).cells, ⟨(qb.below B3).cells.1, (qb.below B3).cells.2.1⟩, (qa.below B3).cells, trivial⟩
  go_wp2_with fail
  refine hK.out _ _ (AllL.kept hHeld) ?_
  clear hK K
  (try simp only [Act.put, putA, putB, putC])
  refine late_st 5 rfl (fun K hK => ?_)
  go_simp
  refine (rmulB (((ia.below (below_drew' _)).below b2).below b3) im9 (by omega)).mono ?_
  rintro e w4 ⟨nm10, m10o, m10l, m10c, rfl, im10, b4⟩
  have B4 : Below W1.heap.size W1 w4 := bstep B3 b4
  clear hHeld
  have hHeld : AllL w4 [(1, fun w' => w'.cell? ⟨g, 0, none⟩ = some (.bool na) ∧ w'.cell? ⟨g, 1, none⟩ = some (.slice ao al ac)), (2, fun w' => w'.cell? ⟨g + 1, 0, none⟩ = some (.bool nb) ∧ w'.cell? ⟨g + 1, 1, none⟩ = some (.slice bo bl bc) ∧ w'.cell? ⟨g + 1, 2, none⟩ = some (.slice bO bL bC)), (7, fun w' => w'.cell? ⟨g + 1, 0, none⟩ = some (.bool nb) ∧ w'.cell? ⟨g + 1, 1, none⟩ = some (.slice bo bl bc)), (8, fun w' => w'.cell? ⟨g, 0, none⟩ = some (.bool na) ∧ w'.cell? ⟨g, 1, none⟩ = some (.slice ao al ac) ∧ w'.cell? ⟨g, 2, none⟩ = some (.slice aO aL aC))] := ⟨⟨(qa.below B4).cells.1, (qa.below B4).cells.2.1⟩, (qb.below B4).cells, ⟨(qb.below B4).cells.1, (qb.below B4).cells.2.1⟩, (qa.below B4).cells, trivial⟩
  go_wp2_with fail
  refine hK.out _ _ (AllL.kept hHeld) ?_
  clear hK K
  (try simp only [Act.put, putA, putB, putC])
  refine late_st 9 rfl (fun K hK => ?_)
  go_simp
  refine (den3 ((((da.below (below_drew' _)).below b2).below b3).below b4) ⟨h1L, by omega⟩).mono ?_
  rintro e w5 ⟨m14o, m14l, m14c, rfl, im14, b5⟩
  have B5 : Below W1.heap.size W1 w5 := bstep B4 b5
  clear hHeld
  have hHeld : AllL w5 [(1, fun w' => w'.cell? ⟨g, 0, none⟩ = some (.bool na) ∧ w'.cell? ⟨g, 1, none⟩ = some (.slice ao al ac)), (2, fun w' => w'.cell? ⟨g + 1, 0, none⟩ = some (.bool nb) ∧ w'.cell? ⟨g + 1, 1, none⟩ = some (.slice bo bl bc) ∧ w'.cell? ⟨g + 1, 2, none⟩ = some (.slice bO bL bC)), (7, fun w' => w'.cell? ⟨g + 1, 0, none⟩ = some (.bool nb) ∧ w'.cell? ⟨g + 1, 1, none⟩ = some (.slice bo bl bc)), (8, fun w' => w'.cell? ⟨g, 0, none⟩ = some (.bool na) ∧ w'.cell? ⟨g, 1, none⟩ = some (.slice ao al ac) ∧ w'.cell? ⟨g, 2, none⟩ = some (.slice aO aL aC))] := ⟨⟨(qa.below B5).cells.1, (qa.below B5).cells.2.1⟩, (qb.below B5).cells, ⟨(qb.below B5).cells.1, (qb.below B5).cells.2.1⟩, (qa.below B5).cells, trivial⟩
  go_wp2_with fail
  refine hK.out _ _ (AllL.kept hHeld) ?_
  clear hK K
  (try simp only [Act.put, putA, putB, putC])
  refine late_st 10 rfl (fun K hK => ?_)
  go_simp
  have im15 := (im14).ib
  refine (whole3 _ _ _ _).mono ?_
  rintro e w6 ⟨rfl, b6⟩
  replace im15 := im15.below b6
  have B6 : Below W1.heap.size W1 w6 := bstep B5 b6
  clear hHeld
  have hHeld : AllL w6 [(1, fun w' => w'.cell? ⟨g, 0, none⟩ = some (.bool na) ∧ w'.cell? ⟨g, 1, none⟩ = some (.slice ao al ac)), (2, fun w' => w'.cell? ⟨g + 1, 0, none⟩ = some (.bool nb) ∧ w'.cell? ⟨g + 1, 1, none⟩ = some (.slice bo bl bc) ∧ w'.cell? ⟨g + 1, 2, none⟩ = some (.slice bO bL bC)), (7, fun w' => w'.cell? ⟨g + 1, 0, none⟩ = some (.bool nb) ∧ w'.cell? ⟨g + 1, 1, none⟩ = some (.slice bo bl bc)), (8, fun w' => w'.cell? ⟨g, 0, none⟩ = some (.bool na) ∧ w'.cell? ⟨g, 1, none⟩ = some (.slice ao al ac) ∧ w'.cell? ⟨g, 2, none⟩ = some (.slice aO aL aC))] := ⟨⟨(qa.below B6).cells.1, (qa.below B6).cells.2.1⟩, (qb.below B6).cells, ⟨(qb.below B6).cells.1, (qb.below B6).cells.2.1⟩, (qa.below B6).cells, trivial⟩
  go_wp2_with fail
  refine hK.out _ _ (AllL.kept hHeld) ?_
  clear hK K
  (try simp only [Act.put, putA, putB, putC])
  refine late_st 11 rfl (fun K hK => ?_)
  go_simp
  refine (rmulB ((((((ib.below (below_drew' _)).below b2).below b3).below b4).below b5).below b6) im15 (by omega)).mono ?_
  rintro e w7 ⟨nm16, m16o, m16l, m16c, rfl, im16, b7⟩
  have B7 : Below W1.heap.size W1 w7 := bstep B6 b7
  clear hHeld
  have hHeld : AllL w7 [(1, fun w' => w'.cell? ⟨g, 0, none⟩ = some (.bool na) ∧ w'.cell? ⟨g, 1, none⟩ = some (.slice ao al ac)), (2, fun w' => w'.cell? ⟨g + 1, 0, none⟩ = some (.bool nb) ∧ w'.cell? ⟨g + 1, 1, none⟩ = some (.slice bo bl bc) ∧ w'.cell? ⟨g + 1, 2, none⟩ = some (.slice bO bL bC)), (7, fun w' => w'.cell? ⟨g + 1, 0, none⟩ = some (.bool nb) ∧ w'.cell? ⟨g + 1, 1, none⟩ = some (.slice bo bl bc)), (8, fun w' => w'.cell? ⟨g, 0, none⟩ = some (.bool na) ∧ w'.cell? ⟨g, 1, none⟩ = some (.slice ao al ac) ∧ w'.cell? ⟨g, 2, none⟩ = some (.slice aO aL aC))] := ⟨⟨(qa.below B7).cells.1, (qa.below B7).cells.2.1⟩, (qb.below B7).cells, ⟨(qb.below B7).cells.1, (qb.below B7).cells.2.1⟩, (qa.below B7).cells, trivial⟩
  go_wp2_with fail
  refine hK.out _ _ (AllL.kept hHeld) ?_
  clear hK K
  (try simp only [Act.put, putA, putB, putC])
  refine late_st 12 rfl (fun K hK => ?_)
  go_simp
  have hq := rcmpB (((im10.below b5).below b6).below b7) im16 (by omega)
  rw [HC.out] at hq
  refine hq.mono ?_
  rintro e w8 ⟨rfl, b8⟩
  clear hq
  have B8 : Below W1.heap.size W1 w8 := bstep B7 b8
  clear hHeld
  have hHeld : AllL w8 [(1, fun w' => w'.cell? ⟨g, 0, none⟩ = some (.bool na) ∧ w'.cell? ⟨g, 1, none⟩ = some (.slice ao al ac)), (2, fun w' => w'.cell? ⟨g + 1, 0, none⟩ = some (.bool nb) ∧ w'.cell? ⟨g + 1, 1, none⟩ = some (.slice bo bl bc) ∧ w'.cell? ⟨g + 1, 2, none⟩ = some (.slice bO bL bC)), (7, fun w' => w'.cell? ⟨g + 1, 0, none⟩ = some (.bool nb) ∧ w'.cell? ⟨g + 1, 1, none⟩ = some (.slice bo bl bc)), (8, fun w' => w'.cell? ⟨g, 0, none⟩ = some (.bool na) ∧ w'.cell? ⟨g, 1, none⟩ = some (.slice ao al ac) ∧ w'.cell? ⟨g, 2, none⟩ = some (.slice aO aL aC))] := ⟨⟨(qa.below B8).cells.1, (qa.below B8).cells.2.1⟩, (qb.below B8).cells, ⟨(qb.below B8).cells.1, (qb.below B8).cells.2.1⟩, (qa.below B8).cells, trivial⟩
  go_wp2_with fail
  refine hK.out _ _ (AllL.kept hHeld) ?_
  clear hK K
  (try simp only [Act.put, putA, putB, putC])
  refine late_st 13 rfl (fun K hK => ?_)
  go_simp
  refine hK.out _ _ ⟨kpt 5, kpt 3, kpt 11, kpt 9, trivial⟩ ?_
  clear hK K
  (try simp only [Act.put, putA, putB, putC])
  refine late_done (by kernel_rfl) ?_ _
  clear hHeld
  have b := B8
  clear b2 b3 b4 b5 b6 b7 b8 B2 B3 B4 B5 B6 B7 B8
  replace ia := ia.below b
  replace ib := ib.below b
  replace da := da.below b
  replace db := db.below b
  replace qa := qa.below b
  replace qb := qb.below b
  replace hb := bstep hb b
  replace hsz := Nat.lt_of_lt_of_le hsz b.size
  clear b
  have HE : Hid (Below w.heap.size w w8) := hb
  clear hb hsz qa qb ia ib da db im9 im10 im15 im16 im8 im14
  go_wp2_with fail
  go_ret
  exact ⟨rfl, HE.out⟩
set_option maxRecDepth 100000 in
set_option maxHeartbeats 6400000 in
theorem sign3 {p : Int} {q L : Nat} (na : Bool) (ao aO : Option Addr) (al ac aL aC : Nat) {w : World} (ia : IB w (.agg #[.bool na, .slice ao al ac]) p L) (hL : L ≤ 1000000) : Calls Tryz.prog 27 #[.agg #[.bool na, .slice ao al ac, .slice aO aL aC]] w fun e w' => e = .returned (.int .i64 (sgnQ (rq p q))) ∧ Below w.heap.size w w' := by
  obtain ⟨c, hc⟩ : ∃ c, c = sgnQ (rq p q) := ⟨_, rfl⟩
  rw [← hc]
  have HC : Hid (cmpZ p 0 = c) := by show _ = _; rw [hc]; exact sgn_rq p q
  clear hc
  obtain ⟨W1, hW1⟩ : ∃ W1, W1 = w.alloc (.cells #[.bool na, .slice ao al ac, .slice aO aL aC] 27) := ⟨_, rfl⟩
  have qa : QCell W1 (w.heap.size) na (.slice ao al ac) (.slice aO aL aC) := by rw [hW1]; exact (qcell_new _ (by simp))
  have hb : Below w.heap.size w W1 := by rw [hW1]; exact belowA w _
  have hsz : w.heap.size < W1.heap.size := by rw [hW1]; simp
  replace ia := ia.below hb
  have HW1 : Hid (W1 = w.alloc (.cells #[.bool na, .slice ao al ac, .slice aO aL aC] 27)) := hW1
  clear hW1
  go_enter Tryz.func27, Tryz.ntmps27
  go_wp2_with fail
  rw [← HW1.out]
  clear HW1
  obtain ⟨g, hg⟩ : ∃ g, g = w.heap.size := ⟨_, rfl⟩
  rw [← hg] at qa hsz ⊢
  have HG : Hid (g = w.heap.size) := hg
  clear hg
  obtain ⟨cqa0, cqa1, cqa2⟩ := qa.cells
  go_wp2_with fail
  clear cqa0 cqa1 cqa2
  have hs := r_sign (ia.num hL)
  rw [HC.out] at hs
  refine (hs).mono ?_
  rintro e w2 ⟨rfl, b⟩
  clear hs
  replace ia := ia.below b
  replace qa := qa.below b
  replace hb := bstep hb b
  replace hsz := Nat.lt_of_lt_of_le hsz b.size
  clear b
  have HE : Hid (Below w.heap.size w w2) := hb
  clear hb hsz qa ia
  go_wp2_with fail
  go_ret
  exact ⟨rfl, HE.out⟩
theorem RoomL.set3 {B : Nat} {w : World} {v : Value} {xs : List Nat} (h : RoomL B w v xs) {g : Nat} (hg : g < B) (a b c : Value) : RoomL B (((w.setCell ⟨g, 0, none⟩ a).setCell ⟨g, 1, none⟩ b).setCell ⟨g, 2, none⟩ c) v xs := by
  obtain ⟨u, e, ho⟩ := h.set2 hg a b
  have hne : u.ownBlock = none ∨ u.ownBlock ≠ some g := by
    rcases hu : u.ownBlock with _ | k
    · exact .inl rfl
    · exact .inr fun e => by have := (ho.block k hu).1; have := Option.some.inj e; omega
  exact ⟨u, e, ho.other c hne⟩
set_option maxRecDepth 100000 in
set_option maxHeartbeats 6400000 in
theorem lend3 (na : Bool) (ao aO : Option Addr) (al ac aL aC : Nat) (xa ya : List Nat) (w : World) (ua : Num w (.slice ao al ac) xa) (va : Num w (.slice aO aL aC) ya) (la : xa.length ≤ 1099511627776) (lb : ya.length ≤ 1099511627776) :
    Calls Tryz.prog 7 #[.agg #[.bool na, .slice ao al ac, .slice aO aL aC]] w fun e w' => ∃ u v, e = .returned (.agg #[.bool na, u, v]) ∧ RoomL w.heap.size w' u xa ∧ RoomL w.heap.size w' v ya ∧ (u.ownBlock = none ∨ u.ownBlock ≠ v.ownBlock) ∧ Below w.heap.size w w' := by
  obtain ⟨W1, hW1⟩ : ∃ W1, W1 = (w.alloc (.cells #[.bool na, .slice ao al ac, .slice aO aL aC] 27)).alloc (.cells #[.bool false, .slice none 0 0, .slice none 0 0] 27) := ⟨_, rfl⟩
  have qa : QCell W1 (w.heap.size) na (.slice ao al ac) (.slice aO aL aC) := by rw [hW1]; exact (qcell_step (qcell_new _ (by simp)))
  have qR : QCell W1 (w.heap.size + 1) false (.slice none 0 0) (.slice none 0 0) := by rw [hW1]; exact (qcell_new _ (by simp))
  have hb : Below w.heap.size w W1 := by rw [hW1]; exact bstep (belowA w _) (belowA _ _)
  have hsz : w.heap.size + 1 < W1.heap.size := by rw [hW1]; simp
  replace va := va.below (Nat.le_refl _) hb
  replace ua := ua.below (Nat.le_refl _) hb
  have HW1 : Hid (W1 = (w.alloc (.cells #[.bool na, .slice ao al ac, .slice aO aL aC] 27)).alloc (.cells #[.bool false, .slice none 0 0, .slice none 0 0] 27)) := hW1
  clear hW1
  go_enter Tryz.func7, Tryz.ntmps7
  go_wp2_with fail
  rw [← HW1.out]
  clear HW1
  obtain ⟨g, hg⟩ : ∃ g, g = w.heap.size := ⟨_, rfl⟩
  rw [← hg] at qa qR hsz ⊢
  have HG : Hid (g = w.heap.size) := hg
  clear hg
  refine region_late [(1, fun w' => w'.cell? ⟨g, 0, none⟩ = some (.bool na) ∧ w'.cell? ⟨g, 1, none⟩ = some (.slice ao al ac)), (4, fun w' => w'.cell? ⟨g, 2, none⟩ = some (.slice aO aL aC))] (by kernel_rfl) ?_
  have hHeld : AllL W1.drew [(1, fun w' => w'.cell? ⟨g, 0, none⟩ = some (.bool na) ∧ w'.cell? ⟨g, 1, none⟩ = some (.slice ao al ac)), (4, fun w' => w'.cell? ⟨g, 2, none⟩ = some (.slice aO aL aC))] := ⟨⟨(show QCell W1.drew (g) na (.slice ao al ac) (.slice aO aL aC) from qa).cells.1, (show QCell W1.drew (g) na (.slice ao al ac) (.slice aO aL aC) from qa).cells.2.1⟩, (show QCell W1.drew (g) na (.slice ao al ac) (.slice aO aL aC) from qa).cells.2.2, trivial⟩
  refine late_fr 0 (v := .pointer (some ⟨g, 0, none⟩)) rfl (Or.inl ⟨by rfl, ?_⟩) hHeld ?_
  · (intro u _; go_simp)
  (try simp only [Act.put, putA, putB, putC])
  refine late_tk 1 (v := .agg #[.bool na, .slice ao al ac]) rfl (List.Mem.head _) (Or.inl ⟨by rfl, ?_⟩) hHeld ?_
  · (intro u hu; (try dsimp only at hu); go_split_ands; go_simp)
  (try simp only [Act.put, putA, putB, putC])
  refine late_fr 3 (v := .pointer (some ⟨g, 2, none⟩)) rfl (Or.inl ⟨by rfl, ?_⟩) hHeld ?_
  · (intro u _; go_simp)
  (try simp only [Act.put, putA, putB, putC])
  refine late_tk 4 (v := .slice aO aL aC) rfl (List.Mem.tail _ (List.Mem.head _)) (Or.inl ⟨by rfl, ?_⟩) hHeld ?_
  · (intro u hu; (try dsimp only at hu); go_split_ands; go_simp)
  (try simp only [Act.put, putA, putB, putC])
  refine late_st 2 rfl (fun K hK => ?_)
  go_simp
  refine (lendInt3 na _ _ _ _ _ (ua.below (Nat.le_refl _) (below_drew' _)) la).mono ?_
  rintro e w2 ⟨u, rfl, hu, b2⟩
  obtain ⟨uo, ul, uc, rfl⟩ := hu.own.sl
  have B2 : Below W1.heap.size W1 w2 := bstep (below_drew' _) b2
  clear hHeld
  have hHeld : AllL w2 [(1, fun w' => w'.cell? ⟨g, 0, none⟩ = some (.bool na) ∧ w'.cell? ⟨g, 1, none⟩ = some (.slice ao al ac)), (4, fun w' => w'.cell? ⟨g, 2, none⟩ = some (.slice aO aL aC))] := ⟨⟨(qa.below B2).cells.1, (qa.below B2).cells.2.1⟩, (qa.below B2).cells.2.2, trivial⟩
  go_wp2_with fail
  refine hK.out _ _ (AllL.kept hHeld) ?_
  clear hK K
  (try simp only [Act.put, putA, putB, putC])
  refine late_st 5 rfl (fun K hK => ?_)
  go_simp
  refine (limbs3_any _ _ _ ((va.below (Nat.le_refl _) (below_drew' _)).below (Nat.le_refl _) b2) lb).mono ?_
  rintro e w3 ⟨u, rfl, hv, b3⟩
  obtain ⟨vo, vl, vc, rfl⟩ := hv.own.sl
  have hap := apart_later hu.own hv.own (Nat.le_refl _)
  replace hu := hu.below b3
  have B3 : Below W1.heap.size W1 w3 := bstep B2 b3
  clear hHeld
  have hHeld : AllL w3 [(1, fun w' => w'.cell? ⟨g, 0, none⟩ = some (.bool na) ∧ w'.cell? ⟨g, 1, none⟩ = some (.slice ao al ac)), (4, fun w' => w'.cell? ⟨g, 2, none⟩ = some (.slice aO aL aC))] := ⟨⟨(qa.below B3).cells.1, (qa.below B3).cells.2.1⟩, (qa.below B3).cells.2.2, trivial⟩
  go_wp2_with fail
  refine hK.out _ _ (AllL.kept hHeld) ?_
  clear hK K
  (try simp only [Act.put, putA, putB, putC])
  refine late_st 6 rfl (fun K hK => ?_)
  go_simp
  refine hK.out _ _ ⟨kpt 2, kpt 5, trivial⟩ ?_
  clear hK K
  (try simp only [Act.put, putA, putB, putC])
  have qq := qR.below B3
  have HE : Hid (RoomL w.heap.size (((w3.setCell ⟨g + 1, 0, none⟩ (.bool na)).setCell ⟨g + 1, 1, none⟩ (.slice uo ul uc)).setCell ⟨g + 1, 2, none⟩ (.slice vo vl vc)) (.slice uo ul uc) xa ∧ RoomL w.heap.size (((w3.setCell ⟨g + 1, 0, none⟩ (.bool na)).setCell ⟨g + 1, 1, none⟩ (.slice uo ul uc)).setCell ⟨g + 1, 2, none⟩ (.slice vo vl vc)) (.slice vo vl vc) ya ∧ Below w.heap.size w (((w3.setCell ⟨g + 1, 0, none⟩ (.bool na)).setCell ⟨g + 1, 1, none⟩ (.slice uo ul uc)).setCell ⟨g + 1, 2, none⟩ (.slice vo vl vc))) := ⟨(hu.set3 (show g + 1 < W1.drew.heap.size from hsz) _ _ _).mono (Nat.le_trans hb.size (below_drew' _).size), (hv.set3 (Nat.lt_of_lt_of_le (show g + 1 < W1.drew.heap.size from hsz) b2.size) _ _ _).mono (Nat.le_trans (Nat.le_trans hb.size (below_drew' _).size) b2.size), iend3 (bstep hb B3) (by rw [HG.out]; omega)⟩
  have HW : Hid (QCell (((w3.setCell ⟨g + 1, 0, none⟩ (.bool na)).setCell ⟨g + 1, 1, none⟩ (.slice uo ul uc)).setCell ⟨g + 1, 2, none⟩ (.slice vo vl vc)) (g + 1) na (.slice uo ul uc) (.slice vo vl vc)) := qq.write _ _ _
  have HAP : Hid _ := hap
  obtain ⟨y0, y1, y2⟩ := qq.cells
  have f0 := qq.thaw 0
  have f1 := qq.thaw 1
  have f2 := qq.thaw 2
  clear qq hu hv hap
  refine late_st 7 rfl (fun K hK => ?_)
  go_simp
  refine hK.out _ _ ⟨kpt 2, kpt 5, trivial⟩ ?_
  clear hK K
  (try simp only [Act.put, putA, putB, putC])
  refine late_done (by kernel_rfl) ?_ _
  clear hHeld
  clear hb hsz qa qR ua va b2 b3 B2 B3
  go_wp2_with fail
  (try simp only [Exit.inBlock, Exit.then])
  exact bodyPost_ret (results_cell_row rfl _ _ (g + 1) 27 _ (0, 0) _ rfl HW.out Tryz.underlying27 rfl (by kernel_rfl)) rfl ⟨_, _, rfl, HE.out.1, HE.out.2.1, HAP.out, HE.out.2.2⟩
set_option maxRecDepth 100000 in
set_option maxHeartbeats 6400000 in
theorem kept3 (B : Nat) (na : Bool) (ao bo aO bO : Option Addr) (al ac bl bc aL aC bL bC : Nat) (xb yb : List Nat) (w : World) (ra : RoomL B w (.slice ao al ac) xb) (ra2 : RoomL B w (.slice aO aL aC) yb) (ub : Num w (.slice bo bl bc) xb) (vb : Num w (.slice bO bL bC) yb) (lb : xb.length ≤ 1099511627776) (lb2 : yb.length ≤ 1099511627776) :
    Calls Tryz.prog 10 #[.agg #[.bool na, .slice ao al ac, .slice aO aL aC], .agg #[.bool na, .slice bo bl bc, .slice bO bL bC]] w fun e w' => e = .returned (.bool true) ∧ Below w.heap.size w w' := by
  obtain ⟨W1, hW1⟩ : ∃ W1, W1 = (w.alloc (.cells #[.bool na, .slice ao al ac, .slice aO aL aC] 27)).alloc (.cells #[.bool na, .slice bo bl bc, .slice bO bL bC] 27) := ⟨_, rfl⟩
  have qa : QCell W1 (w.heap.size) na (.slice ao al ac) (.slice aO aL aC) := by rw [hW1]; exact (qcell_step (qcell_new _ (by simp)))
  have qb : QCell W1 (w.heap.size + 1) na (.slice bo bl bc) (.slice bO bL bC) := by rw [hW1]; exact (qcell_new _ (by simp))
  have hb : Below w.heap.size w W1 := by rw [hW1]; exact bstep (belowA w _) (belowA _ _)
  have hsz : w.heap.size + 1 < W1.heap.size := by rw [hW1]; simp
  replace vb := vb.below (Nat.le_refl _) hb
  replace ra2 := ra2.below hb
  replace ra := ra.below hb
  replace ub := ub.below (Nat.le_refl _) hb
  have HW1 : Hid (W1 = (w.alloc (.cells #[.bool na, .slice ao al ac, .slice aO aL aC] 27)).alloc (.cells #[.bool na, .slice bo bl bc, .slice bO bL bC] 27)) := hW1
  clear hW1
  go_enter Tryz.func10, Tryz.ntmps10
  go_wp2_with fail
  rw [← HW1.out]
  clear HW1
  obtain ⟨g, hg⟩ : ∃ g, g = w.heap.size := ⟨_, rfl⟩
  rw [← hg] at qa qb hsz ⊢
  have HG : Hid (g = w.heap.size) := hg
  clear hg
  obtain ⟨cqa0, cqa1, cqa2⟩ := qa.cells
  obtain ⟨cqb0, cqb1, cqb2⟩ := qb.cells
  go_wp2_with fail
  clear cqa0 cqa1 cqa2 cqb0 cqb1 cqb2
  refine (keptInt3 B na ao bo al ac bl bc xb _ ra ub lb).mono ?_
  rintro e w2 ⟨rfl, b⟩
  replace ra := ra.below b
  replace ub := ub.below (Nat.le_refl _) b
  replace ra2 := ra2.below b
  replace vb := vb.below (Nat.le_refl _) b
  replace qa := qa.below b
  replace qb := qb.below b
  replace hb := bstep hb b
  replace hsz := Nat.lt_of_lt_of_le hsz b.size
  clear b
  obtain ⟨cqa0, cqa1, cqa2⟩ := qa.cells
  obtain ⟨cqb0, cqb1, cqb2⟩ := qb.cells
  go_wp2_with fail
  clear cqa0 cqa1 cqa2 cqb0 cqb1 cqb2
  refine (stands_yes _ _ _ _ _ ra2 vb lb2).mono ?_
  rintro e w3 ⟨rfl, q, hq⟩
  have HE : Hid (Below w.heap.size w w3) := by rw [hq]; exact bstep hb (below_drewN (Below.refl _ _) q)
  clear hq hb hsz qa qb ra ub ra2 vb
  go_wp2
  go_ret
  exact ⟨rfl, HE.out⟩
end Go.Proofs.YtfnafgjnimfmjaaGreatDoor
