/-
  Proved here: what Fit, Neg, Mul, Cmp, Sign, Lend, Kept and Text of the document's layer 3 answer.
-/
import Derived.Test.YtnehfkbpbgmbaaaGreatDoorR3B
import Derived.Test.YtnehfkbpbgmbaaaGreatDoorFracE
namespace Go.Proofs.YtnehfkbpbgmbaaaGreatDoor
open Go.RowKit
attribute [local go_sem ↓] Go.wp_at_zero Go.wp_at_succ

theorem RoomL.set3 {B : Nat} {w : World} {v : Value} {xs : List Nat} (h : RoomL B w v xs) {g : Nat} (hg : g < B) (a b c : Value) : RoomL B (((w.setCell ⟨g, 0, none⟩ a).setCell ⟨g, 1, none⟩ b).setCell ⟨g, 2, none⟩ c) v xs := by
  obtain ⟨u, e, ho⟩ := h.set2 hg a b
  have hne : u.ownBlock = none ∨ u.ownBlock ≠ some g := by
    rcases hu : u.ownBlock with _ | k
    · exact .inl rfl
    · exact .inr fun e => by have := (ho.block k hu).1; have := Option.some.inj e; omega
  exact ⟨u, e, ho.other c hne⟩
set_option maxRecDepth 100000 in
set_option maxHeartbeats 6400000 in
theorem lend3 (na : Bool) (ao aO : Option Addr) (al ac aL aC : Nat) (xa ya : List Nat) (w : World) (ua : Num w (.slice ao al ac) xa) (va : Num w (.slice aO aL aC) ya) (la : xa.length ≤ 1099511627776) (lb : ya.length ≤ 1099511627776) :
    Calls Tryz.prog 7 #[.agg #[.bool na, .slice ao al ac, .slice aO aL aC]] w fun e w' => ∃ u v, e = .returned (.agg #[.bool na, u, v]) ∧ RoomL w.heap.size w' u xa ∧ RoomL w.heap.size w' v ya ∧ (u.ownBlock = none ∨ u.ownBlock ≠ v.ownBlock) ∧ Below w.heap.size w w' := by
  obtain ⟨W1, hW1⟩ : ∃ W1, W1 = (w.alloc (.cells #[.bool na, .slice ao al ac, .slice aO aL aC] 27)).alloc (.cells #[.bool false, .slice none 0 0, .slice none 0 0] 27) := ⟨_, rfl⟩
  have qa : QCell W1 (w.heap.size) na (.slice ao al ac) (.slice aO aL aC) := by rw [hW1]; exact (qcell_step (qcell_new _ (by simp)))
  have qR : QCell W1 (w.heap.size + 1) false (.slice none 0 0) (.slice none 0 0) := by rw [hW1]; exact (qcell_new _ (by simp))
  have hb : Below w.heap.size w W1 := by rw [hW1]; exact bstep (belowA w _) (belowA _ _)
  have hsz : w.heap.size + 1 < W1.heap.size := by rw [hW1]; simp
  replace va := va.below (Nat.le_refl _) hb
  replace ua := ua.below (Nat.le_refl _) hb
  have HW1 : Hid (W1 = (w.alloc (.cells #[.bool na, .slice ao al ac, .slice aO aL aC] 27)).alloc (.cells #[.bool false, .slice none 0 0, .slice none 0 0] 27)) := hW1
  clear hW1
  go_enter Tryz.func7, Tryz.ntmps7
  go_wp2_with fail
  rw [← HW1.out]
  clear HW1
  obtain ⟨g, hg⟩ : ∃ g, g = w.heap.size := ⟨_, rfl⟩
  rw [← hg] at qa qR hsz ⊢
  have HG : Hid (g = w.heap.size) := hg
  clear hg
  refine region_late [(1, fun w' => w'.cell? ⟨g, 0, none⟩ = some (.bool na) ∧ w'.cell? ⟨g, 1, none⟩ = some (.slice ao al ac)), (4, fun w' => w'.cell? ⟨g, 2, none⟩ = some (.slice aO aL aC))] (by kernel_rfl) ?_
  have hHeld : AllL W1.drew [(1, fun w' => w'.cell? ⟨g, 0, none⟩ = some (.bool na) ∧ w'.cell? ⟨g, 1, none⟩ = some (.slice ao al ac)), (4, fun w' => w'.cell? ⟨g, 2, none⟩ = some (.slice aO aL aC))] := ⟨⟨(show QCell W1.drew (g) na (.slice ao al ac) (.slice aO aL aC) from qa).cells.1, (show QCell W1.drew (g) na (.slice ao al ac) (.slice aO aL aC) from qa).cells.2.1⟩, (show QCell W1.drew (g) na (.slice ao al ac) (.slice aO aL aC) from qa).cells.2.2, trivial⟩
  refine late_free 0 (v := .pointer (some ⟨g, 0, none⟩)) rfl (by kernel_rfl) (by kernel_rfl) (by kernel_rfl) (by kernel_rfl) (by kernel_rfl) (by kernel_rfl) (fun _ _ _ h => h) (Or.inl ⟨by rfl, ?_⟩) hHeld ?_
  · (intro u _; go_simp)
  (try simp only [Act.put, List.setIfInBounds_toArray, List.set_cons_zero, List.set_cons_succ])
  refine late_take 1 (v := .agg #[.bool na, .slice ao al ac]) rfl (by kernel_rfl) (List.Mem.head _) (by kernel_rfl) (by kernel_rfl) (by kernel_rfl) (by kernel_rfl) (fun _ _ _ h => h) (Or.inl ⟨by rfl, ?_⟩) hHeld ?_
  · (intro u hu; (try dsimp only at hu); go_split_ands; go_simp)
  (try simp only [Act.put, List.setIfInBounds_toArray, List.set_cons_zero, List.set_cons_succ])
  refine late_free 3 (v := .pointer (some ⟨g, 2, none⟩)) rfl (by kernel_rfl) (by kernel_rfl) (by kernel_rfl) (by kernel_rfl) (by kernel_rfl) (by kernel_rfl) (fun _ _ _ h => h) (Or.inl ⟨by rfl, ?_⟩) hHeld ?_
  · (intro u _; go_simp)
  (try simp only [Act.put, List.setIfInBounds_toArray, List.set_cons_zero, List.set_cons_succ])
  refine late_take 4 (v := .slice aO aL aC) rfl (by kernel_rfl) (List.Mem.tail _ (List.Mem.head _)) (by kernel_rfl) (by kernel_rfl) (by kernel_rfl) (by kernel_rfl) (fun _ _ _ h => h) (Or.inl ⟨by rfl, ?_⟩) hHeld ?_
  · (intro u hu; (try dsimp only at hu); go_split_ands; go_simp)
  (try simp only [Act.put, List.setIfInBounds_toArray, List.set_cons_zero, List.set_cons_succ])
  refine late_step 2 (by kernel_rfl) rfl (fun K hK => ?_)
  go_simp
  refine (lendInt3 na _ _ _ _ _ (ua.below (Nat.le_refl _) (below_drew' _)) la).mono ?_
  rintro e w2 ⟨u, rfl, hu, b2⟩
  obtain ⟨uo, ul, uc, rfl⟩ := hu.own.sl
  have B2 : Below W1.heap.size W1 w2 := bstep (below_drew' _) b2
  clear hHeld
  have hHeld : AllL w2 [(1, fun w' => w'.cell? ⟨g, 0, none⟩ = some (.bool na) ∧ w'.cell? ⟨g, 1, none⟩ = some (.slice ao al ac)), (4, fun w' => w'.cell? ⟨g, 2, none⟩ = some (.slice aO aL aC))] := ⟨⟨(qa.below B2).cells.1, (qa.below B2).cells.2.1⟩, (qa.below B2).cells.2.2, trivial⟩
  go_wp2_with fail
  refine hK.out _ _ (AllL.kept hHeld) ?_
  clear hK K
  (try simp only [Act.put, List.setIfInBounds_toArray, List.set_cons_zero, List.set_cons_succ])
  refine late_step 5 (by kernel_rfl) rfl (fun K hK => ?_)
  go_simp
  refine (limbs3_any _ _ _ ((va.below (Nat.le_refl _) (below_drew' _)).below (Nat.le_refl _) b2) lb).mono ?_
  rintro e w3 ⟨u, rfl, hv, b3⟩
  obtain ⟨vo, vl, vc, rfl⟩ := hv.own.sl
  have hap := apart_later hu.own hv.own (Nat.le_refl _)
  replace hu := hu.below b3
  have B3 : Below W1.heap.size W1 w3 := bstep B2 b3
  clear hHeld
  have hHeld : AllL w3 [(1, fun w' => w'.cell? ⟨g, 0, none⟩ = some (.bool na) ∧ w'.cell? ⟨g, 1, none⟩ = some (.slice ao al ac)), (4, fun w' => w'.cell? ⟨g, 2, none⟩ = some (.slice aO aL aC))] := ⟨⟨(qa.below B3).cells.1, (qa.below B3).cells.2.1⟩, (qa.below B3).cells.2.2, trivial⟩
  go_wp2_with fail
  refine hK.out _ _ (AllL.kept hHeld) ?_
  clear hK K
  (try simp only [Act.put, List.setIfInBounds_toArray, List.set_cons_zero, List.set_cons_succ])
  refine late_step 6 (by kernel_rfl) rfl (fun K hK => ?_)
  go_simp
  refine hK.out _ _ ⟨Or.inl ⟨2, by kernel_rfl, by kernel_rfl⟩, Or.inl ⟨5, by kernel_rfl, by kernel_rfl⟩, trivial⟩ ?_
  clear hK K
  (try simp only [Act.put, List.setIfInBounds_toArray, List.set_cons_zero, List.set_cons_succ])
  have qq := qR.below B3
  have HE : Hid (RoomL w.heap.size (((w3.setCell ⟨g + 1, 0, none⟩ (.bool na)).setCell ⟨g + 1, 1, none⟩ (.slice uo ul uc)).setCell ⟨g + 1, 2, none⟩ (.slice vo vl vc)) (.slice uo ul uc) xa ∧ RoomL w.heap.size (((w3.setCell ⟨g + 1, 0, none⟩ (.bool na)).setCell ⟨g + 1, 1, none⟩ (.slice uo ul uc)).setCell ⟨g + 1, 2, none⟩ (.slice vo vl vc)) (.slice vo vl vc) ya ∧ Below w.heap.size w (((w3.setCell ⟨g + 1, 0, none⟩ (.bool na)).setCell ⟨g + 1, 1, none⟩ (.slice uo ul uc)).setCell ⟨g + 1, 2, none⟩ (.slice vo vl vc))) := ⟨(hu.set3 (show g + 1 < W1.drew.heap.size from hsz) _ _ _).mono (Nat.le_trans hb.size (below_drew' _).size), (hv.set3 (Nat.lt_of_lt_of_le (show g + 1 < W1.drew.heap.size from hsz) b2.size) _ _ _).mono (Nat.le_trans (Nat.le_trans hb.size (below_drew' _).size) b2.size), iend3 (bstep hb B3) (by rw [HG.out]; omega)⟩
  have HW : Hid (QCell (((w3.setCell ⟨g + 1, 0, none⟩ (.bool na)).setCell ⟨g + 1, 1, none⟩ (.slice uo ul uc)).setCell ⟨g + 1, 2, none⟩ (.slice vo vl vc)) (g + 1) na (.slice uo ul uc) (.slice vo vl vc)) := qq.write _ _ _
  have HAP : Hid _ := hap
  obtain ⟨y0, y1, y2⟩ := qq.cells
  have f0 := qq.thaw 0
  have f1 := qq.thaw 1
  have f2 := qq.thaw 2
  clear qq hu hv hap
  refine late_step 7 (by kernel_rfl) rfl (fun K hK => ?_)
  go_simp
  refine hK.out _ _ ⟨Or.inl ⟨2, by kernel_rfl, by kernel_rfl⟩, Or.inl ⟨5, by kernel_rfl, by kernel_rfl⟩, trivial⟩ ?_
  clear hK K
  (try simp only [Act.put, List.setIfInBounds_toArray, List.set_cons_zero, List.set_cons_succ])
  refine late_done (by kernel_rfl) ?_ _
  clear hHeld
  clear hb hsz qa qR ua va b2 b3 B2 B3
  go_wp2_with fail
  (try simp only [Exit.inBlock, Exit.then])
  exact bodyPost_ret (results_cell_row rfl _ _ (g + 1) 27 _ (0, 0) _ rfl HW.out Tryz.underlying27 rfl (by kernel_rfl)) rfl ⟨_, _, rfl, HE.out.1, HE.out.2.1, HAP.out, HE.out.2.2⟩
set_option maxRecDepth 100000 in
set_option maxHeartbeats 6400000 in
theorem kept3 (B : Nat) (na : Bool) (ao bo aO bO : Option Addr) (al ac bl bc aL aC bL bC : Nat) (xb yb : List Nat) (w : World) (ra : RoomL B w (.slice ao al ac) xb) (ra2 : RoomL B w (.slice aO aL aC) yb) (ub : Num w (.slice bo bl bc) xb) (vb : Num w (.slice bO bL bC) yb) (lb : xb.length ≤ 1099511627776) (lb2 : yb.length ≤ 1099511627776) :
    Calls Tryz.prog 29 #[.agg #[.bool na, .slice ao al ac, .slice aO aL aC], .agg #[.bool na, .slice bo bl bc, .slice bO bL bC]] w fun e w' => e = .returned (.bool true) ∧ Below w.heap.size w w' := by
  obtain ⟨W1, hW1⟩ : ∃ W1, W1 = (w.alloc (.cells #[.bool na, .slice ao al ac, .slice aO aL aC] 27)).alloc (.cells #[.bool na, .slice bo bl bc, .slice bO bL bC] 27) := ⟨_, rfl⟩
  have qa : QCell W1 (w.heap.size) na (.slice ao al ac) (.slice aO aL aC) := by rw [hW1]; exact (qcell_step (qcell_new _ (by simp)))
  have qb : QCell W1 (w.heap.size + 1) na (.slice bo bl bc) (.slice bO bL bC) := by rw [hW1]; exact (qcell_new _ (by simp))
  have hb : Below w.heap.size w W1 := by rw [hW1]; exact bstep (belowA w _) (belowA _ _)
  have hsz : w.heap.size + 1 < W1.heap.size := by rw [hW1]; simp
  replace vb := vb.below (Nat.le_refl _) hb
  replace ra2 := ra2.below hb
  replace ra := ra.below hb
  replace ub := ub.below (Nat.le_refl _) hb
  have HW1 : Hid (W1 = (w.alloc (.cells #[.bool na, .slice ao al ac, .slice aO aL aC] 27)).alloc (.cells #[.bool na, .slice bo bl bc, .slice bO bL bC] 27)) := hW1
  clear hW1
  go_enter Tryz.func29, Tryz.ntmps29
  go_wp2_with fail
  rw [← HW1.out]
  clear HW1
  obtain ⟨g, hg⟩ : ∃ g, g = w.heap.size := ⟨_, rfl⟩
  rw [← hg] at qa qb hsz ⊢
  have HG : Hid (g = w.heap.size) := hg
  clear hg
  obtain ⟨cqa0, cqa1, cqa2⟩ := qa.cells
  obtain ⟨cqb0, cqb1, cqb2⟩ := qb.cells
  go_wp2_with fail
  clear cqa0 cqa1 cqa2 cqb0 cqb1 cqb2
  refine (keptInt3 B na ao bo al ac bl bc xb _ ra ub lb).mono ?_
  rintro e w2 ⟨rfl, b⟩
  replace ra := ra.below b
  replace ub := ub.below (Nat.le_refl _) b
  replace ra2 := ra2.below b
  replace vb := vb.below (Nat.le_refl _) b
  replace qa := qa.below b
  replace qb := qb.below b
  replace hb := bstep hb b
  replace hsz := Nat.lt_of_lt_of_le hsz b.size
  clear b
  obtain ⟨cqa0, cqa1, cqa2⟩ := qa.cells
  obtain ⟨cqb0, cqb1, cqb2⟩ := qb.cells
  go_wp2_with fail
  clear cqa0 cqa1 cqa2 cqb0 cqb1 cqb2
  refine (stands_yes _ _ _ _ _ ra2 vb lb2).mono ?_
  rintro e w3 ⟨rfl, q, hq⟩
  have HE : Hid (Below w.heap.size w w3) := by rw [hq]; exact bstep hb (below_drewN (Below.refl _ _) q)
  clear hq hb hsz qa qb ra ub ra2 vb
  go_wp2
  go_ret
  exact ⟨rfl, HE.out⟩
end Go.Proofs.YtnehfkbpbgmbaaaGreatDoor
