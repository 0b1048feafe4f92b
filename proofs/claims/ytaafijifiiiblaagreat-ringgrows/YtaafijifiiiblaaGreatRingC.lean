/-
  Proved here: slopes, ints, yes and no of package ring.
-/
import Derived.Test.YtaafijifiiiblaaGreatRingB
import Derived.Test.YtaafijifiiiblaaGreatLate3
namespace Go.Proofs.YtaafijifiiiblaaGreat
open Go.RowKit
/-- The six cells of a slope. -/
def SlC (w : World) (g : Nat) (n : Bool) (m d : Value) (n2 : Bool) (m2 d2 : Value) : Prop := w.heap[g]? = some (.cells #[.bool n, m, d, .bool n2, m2, d2] 43 (0, 0))
section
variable {w w' : World} {g : Nat} {n : Bool} {m d : Value} {n2 : Bool} {m2 d2 : Value}
theorem SlC.cells (h : SlC w g n m d n2 m2 d2) : w.cell? ⟨g, 0, none⟩ = some (.bool n) ∧ w.cell? ⟨g, 1, none⟩ = some m ∧ w.cell? ⟨g, 2, none⟩ = some d ∧ w.cell? ⟨g, 3, none⟩ = some (.bool n2) ∧ w.cell? ⟨g, 4, none⟩ = some m2 ∧ w.cell? ⟨g, 5, none⟩ = some d2 := by
  refine ⟨?_, ?_, ?_, ?_, ?_, ?_⟩ <;> rw [cell_of_row w g _ _ _ _ h] <;> rfl
theorem SlC.thaw (h : SlC w g n m d n2 m2 d2) (k : Nat) : w.frozen? ⟨g, k, none⟩ = false := frozen_of_row w g k _ _ h
theorem SlC.lt (h : SlC w g n m d n2 m2 d2) : g < w.heap.size := (Array.getElem?_eq_some_iff.1 (show w.heap[g]? = _ from h)).1
theorem SlC.below (h : SlC w g n m d n2 m2 d2) (hb : Below w.heap.size w w') : SlC w' g n m d n2 m2 d2 := by unfold SlC; rw [hb.block _ h.lt]; exact h
theorem slc_step {o : Obj} (h : SlC w g n m d n2 m2 d2) : SlC (w.alloc o) g n m d n2 m2 d2 := h.below (belowA _ _)
theorem slc_new (w : World) {k : Nat} (hk : w.heap.size = k) : SlC (w.alloc (.cells #[.bool n, m, d, .bool n2, m2, d2] 43)) k n m d n2 m2 d2 := by subst hk; exact heap_alloc_new w _
theorem SlC.other (h : SlC w g n m d n2 m2 d2) {g' : Nat} (hne : g ≠ g') (k : Nat) (v : Value) : SlC (w.setCell ⟨g', k, none⟩ v) g n m d n2 m2 d2 := by
  unfold SlC
  rw [heap_setCell_other _ _ _ _ hne]
  exact h
theorem SlC.write (h : SlC w g n m d n2 m2 d2) (a : Bool) (b c : Value) (e : Bool) (f k : Value) : SlC ((((((w.setCell ⟨g, 0, none⟩ (.bool a)).setCell ⟨g, 1, none⟩ b).setCell ⟨g, 2, none⟩ c).setCell ⟨g, 3, none⟩ (.bool e)).setCell ⟨g, 4, none⟩ f).setCell ⟨g, 5, none⟩ k) g a b c e f k := by
  unfold SlC
  have h0 := heap_setCell_same w g 0 _ _ (.bool a) h
  have h1 := heap_setCell_same _ g 1 _ _ b h0
  have h2 := heap_setCell_same _ g 2 _ _ c h1
  have h3 := heap_setCell_same _ g 3 _ _ (.bool e) h2
  have h4 := heap_setCell_same _ g 4 _ _ f h3
  have h5 := heap_setCell_same _ g 5 _ _ k h4
  rw [h5]
  rfl
end
theorem ROwn.one {B g : Nat} {w : World} {v : Value} {r : Rat} (h : ROwn B w v r) (hg : g < B) (k : Nat) (u : Value) : ROwn B (w.setCell ⟨g, k, none⟩ u) v r := by
  obtain ⟨m, d, e, h1, h2, h3⟩ := h
  exact ⟨m, d, e, h1.other _ (own_ne h1 hg), h2.other _ (own_ne h2 hg), h3⟩
/-- What a slope's maker leaves. -/
def SlEnd (w : World) (r s : Rat) (e : Ending) (w' : World) : Prop := ∃ n ao al ac bo bl bc n2 co cl cc eo el ec, e = .returned (.agg #[.bool n, .slice ao al ac, .slice bo bl bc, .bool n2, .slice co cl cc, .slice eo el ec]) ∧ ROwn w.heap.size w' (.agg #[.bool n, .slice ao al ac, .slice bo bl bc]) r ∧ ROwn w.heap.size w' (.agg #[.bool n2, .slice co cl cc, .slice eo el ec]) s ∧ Below w.heap.size w w'
set_option maxRecDepth 100000 in
set_option maxHeartbeats 6400000 in
theorem slopesMul {na ma nb mb : Bool} {ao aO ap aP bo bO bp bP : Option Addr} {al ac aL aC aq ar aQ aR bl bc bL bC bq br bQ bR : Nat} {x x' y y' : Rat} {L M : Nat} {w : World} (ha : RNum w (.agg #[.bool na, .slice ao al ac, .slice aO aL aC]) x L) (ha2 : RNum w (.agg #[.bool ma, .slice ap aq ar, .slice aP aQ aR]) x' L) (hb : RNum w (.agg #[.bool nb, .slice bo bl bc, .slice bO bL bC]) y M) (hb2 : RNum w (.agg #[.bool mb, .slice bp bq br, .slice bP bQ bR]) y' M) (hK : L + M + (L + M) + 1 ≤ 1000000) : Calls Tryz.prog 33 #[.agg #[], .agg #[.bool na, .slice ao al ac, .slice aO aL aC, .bool ma, .slice ap aq ar, .slice aP aQ aR], .agg #[.bool nb, .slice bo bl bc, .slice bO bL bC, .bool mb, .slice bp bq br, .slice bP bQ bR]] w fun e w' => SlEnd w (x * y) (x * y' + x' * y) e w' := by
  obtain ⟨W1, hW1⟩ : ∃ W1, W1 = (((w.alloc (.cells #[] 45)).alloc (.cells #[.bool na, .slice ao al ac, .slice aO aL aC, .bool ma, .slice ap aq ar, .slice aP aQ aR] 43)).alloc (.cells #[.bool nb, .slice bo bl bc, .slice bO bL bC, .bool mb, .slice bp bq br, .slice bP bQ bR] 43)).alloc (.cells #[.bool false, .slice none 0 0, .slice none 0 0, .bool false, .slice none 0 0, .slice none 0 0] 43) := ⟨_, rfl⟩
  have qA : SlC W1 (w.heap.size + 1) na (.slice ao al ac) (.slice aO aL aC) ma (.slice ap aq ar) (.slice aP aQ aR) := by rw [hW1]; exact slc_step (slc_step (slc_new _ (by simp)))
  have qB : SlC W1 (w.heap.size + 1 + 1) nb (.slice bo bl bc) (.slice bO bL bC) mb (.slice bp bq br) (.slice bP bQ bR) := by rw [hW1]; exact slc_step (slc_new _ (by simp))
  have qR : SlC W1 (w.heap.size + 1 + 1 + 1) false (.slice none 0 0) (.slice none 0 0) false (.slice none 0 0) (.slice none 0 0) := by rw [hW1]; exact slc_new _ (by simp)
  have bw : Below w.heap.size w W1 := by rw [hW1]; exact bstep (bstep (bstep (belowA w _) (belowA _ _)) (belowA _ _)) (belowA _ _)
  have zw : w.heap.size + 1 + 1 + 1 + 1 ≤ W1.heap.size := by rw [hW1]; simp
  replace ha := ha.below bw
  replace ha2 := ha2.below bw
  replace hb := hb.below bw
  replace hb2 := hb2.below bw
  obtain ⟨g, hg⟩ : ∃ g, g = w.heap.size := ⟨_, rfl⟩
  rw [← hg] at qA qB qR bw zw
  have HW1 : Hid (W1 = (((w.alloc (.cells #[] 45)).alloc (.cells #[.bool na, .slice ao al ac, .slice aO aL aC, .bool ma, .slice ap aq ar, .slice aP aQ aR] 43)).alloc (.cells #[.bool nb, .slice bo bl bc, .slice bO bL bC, .bool mb, .slice bp bq br, .slice bP bQ bR] 43)).alloc (.cells #[.bool false, .slice none 0 0, .slice none 0 0, .bool false, .slice none 0 0, .slice none 0 0] 43)) := hW1
  have HG : Hid (g = w.heap.size) := hg
  clear hW1 hg
  go_enter Tryz.func33, Tryz.ntmps33
  go_upto_region 1 with fail
  rw [← HW1.out, ← HG.out]
  clear HW1
  have KEEP : ∀ u, Below W1.heap.size W1 u → L3.AllL u [(1, fun w' => w'.cell? ⟨g + 1, 0, none⟩ = some (.bool na) ∧ w'.cell? ⟨g + 1, 1, none⟩ = some (.slice ao al ac) ∧ w'.cell? ⟨g + 1, 2, none⟩ = some (.slice aO aL aC)), (3, fun w' => w'.cell? ⟨g + 1 + 1, 0, none⟩ = some (.bool nb) ∧ w'.cell? ⟨g + 1 + 1, 1, none⟩ = some (.slice bo bl bc) ∧ w'.cell? ⟨g + 1 + 1, 2, none⟩ = some (.slice bO bL bC)), (6, fun w' => w'.cell? ⟨g + 1, 0, none⟩ = some (.bool na) ∧ w'.cell? ⟨g + 1, 1, none⟩ = some (.slice ao al ac) ∧ w'.cell? ⟨g + 1, 2, none⟩ = some (.slice aO aL aC)), (8, fun w' => w'.cell? ⟨g + 1 + 1, 3, none⟩ = some (.bool mb) ∧ w'.cell? ⟨g + 1 + 1, 4, none⟩ = some (.slice bp bq br) ∧ w'.cell? ⟨g + 1 + 1, 5, none⟩ = some (.slice bP bQ bR)), (11, fun w' => w'.cell? ⟨g + 1, 3, none⟩ = some (.bool ma) ∧ w'.cell? ⟨g + 1, 4, none⟩ = some (.slice ap aq ar) ∧ w'.cell? ⟨g + 1, 5, none⟩ = some (.slice aP aQ aR)), (13, fun w' => w'.cell? ⟨g + 1 + 1, 0, none⟩ = some (.bool nb) ∧ w'.cell? ⟨g + 1 + 1, 1, none⟩ = some (.slice bo bl bc) ∧ w'.cell? ⟨g + 1 + 1, 2, none⟩ = some (.slice bO bL bC))] := fun u hu => ⟨⟨(qA.below hu).cells.1, (qA.below hu).cells.2.1, (qA.below hu).cells.2.2.1⟩, ⟨(qB.below hu).cells.1, (qB.below hu).cells.2.1, (qB.below hu).cells.2.2.1⟩, ⟨(qA.below hu).cells.1, (qA.below hu).cells.2.1, (qA.below hu).cells.2.2.1⟩, ⟨(qB.below hu).cells.2.2.2.1, (qB.below hu).cells.2.2.2.2.1, (qB.below hu).cells.2.2.2.2.2⟩, ⟨(qA.below hu).cells.2.2.2.1, (qA.below hu).cells.2.2.2.2.1, (qA.below hu).cells.2.2.2.2.2⟩, ⟨(qB.below hu).cells.1, (qB.below hu).cells.2.1, (qB.below hu).cells.2.2.1⟩, trivial⟩
  refine L3.region_late [(1, fun w' => w'.cell? ⟨g + 1, 0, none⟩ = some (.bool na) ∧ w'.cell? ⟨g + 1, 1, none⟩ = some (.slice ao al ac) ∧ w'.cell? ⟨g + 1, 2, none⟩ = some (.slice aO aL aC)), (3, fun w' => w'.cell? ⟨g + 1 + 1, 0, none⟩ = some (.bool nb) ∧ w'.cell? ⟨g + 1 + 1, 1, none⟩ = some (.slice bo bl bc) ∧ w'.cell? ⟨g + 1 + 1, 2, none⟩ = some (.slice bO bL bC)), (6, fun w' => w'.cell? ⟨g + 1, 0, none⟩ = some (.bool na) ∧ w'.cell? ⟨g + 1, 1, none⟩ = some (.slice ao al ac) ∧ w'.cell? ⟨g + 1, 2, none⟩ = some (.slice aO aL aC)), (8, fun w' => w'.cell? ⟨g + 1 + 1, 3, none⟩ = some (.bool mb) ∧ w'.cell? ⟨g + 1 + 1, 4, none⟩ = some (.slice bp bq br) ∧ w'.cell? ⟨g + 1 + 1, 5, none⟩ = some (.slice bP bQ bR)), (11, fun w' => w'.cell? ⟨g + 1, 3, none⟩ = some (.bool ma) ∧ w'.cell? ⟨g + 1, 4, none⟩ = some (.slice ap aq ar) ∧ w'.cell? ⟨g + 1, 5, none⟩ = some (.slice aP aQ aR)), (13, fun w' => w'.cell? ⟨g + 1 + 1, 0, none⟩ = some (.bool nb) ∧ w'.cell? ⟨g + 1 + 1, 1, none⟩ = some (.slice bo bl bc) ∧ w'.cell? ⟨g + 1 + 1, 2, none⟩ = some (.slice bO bL bC))] (by kernel_rfl) ?_
  have B : Below W1.heap.size W1 W1.drew := (Below.refl _ _).drew
  obtain ⟨w1, hw1⟩ : ∃ u, u = W1.drew := ⟨_, rfl⟩
  rw [← hw1] at B ⊢
  clear hw1
  have hHeld := KEEP _ B
  refine L3.late_free 0 (v := .pointer (some ⟨g + 1, 0, none⟩)) rfl (by kernel_rfl) (by kernel_rfl) (by kernel_rfl) (by kernel_rfl) (by kernel_rfl) (by kernel_rfl) (fun _ _ _ h => h) (Or.inl ⟨by rfl, ?_⟩) hHeld ?_
  · (intro u _; go_simp)
  (try simp only [Act.put, List.setIfInBounds_toArray, List.set_cons_zero, List.set_cons_succ])
  refine L3.late_take 1 (v := .agg #[.bool na, .slice ao al ac, .slice aO aL aC]) rfl (by kernel_rfl) (List.Mem.head _) (by kernel_rfl) (by kernel_rfl) (by kernel_rfl) (by kernel_rfl) (fun _ _ _ h => h) (Or.inl ⟨by rfl, ?_⟩) hHeld ?_
  · (intro u hu; (try dsimp only at hu); go_split_ands; go_simp)
  (try simp only [Act.put, List.setIfInBounds_toArray, List.set_cons_zero, List.set_cons_succ])
  refine L3.late_free 2 (v := .pointer (some ⟨g + 1 + 1, 0, none⟩)) rfl (by kernel_rfl) (by kernel_rfl) (by kernel_rfl) (by kernel_rfl) (by kernel_rfl) (by kernel_rfl) (fun _ _ _ h => h) (Or.inl ⟨by rfl, ?_⟩) hHeld ?_
  · (intro u _; go_simp)
  (try simp only [Act.put, List.setIfInBounds_toArray, List.set_cons_zero, List.set_cons_succ])
  refine L3.late_take 3 (v := .agg #[.bool nb, .slice bo bl bc, .slice bO bL bC]) rfl (by kernel_rfl) (List.Mem.tail _ (List.Mem.head _)) (by kernel_rfl) (by kernel_rfl) (by kernel_rfl) (by kernel_rfl) (fun _ _ _ h => h) (Or.inl ⟨by rfl, ?_⟩) hHeld ?_
  · (intro u hu; (try dsimp only at hu); go_split_ands; go_simp)
  (try simp only [Act.put, List.setIfInBounds_toArray, List.set_cons_zero, List.set_cons_succ])
  refine L3.late_free 5 (v := .pointer (some ⟨g + 1, 0, none⟩)) rfl (by kernel_rfl) (by kernel_rfl) (by kernel_rfl) (by kernel_rfl) (by kernel_rfl) (by kernel_rfl) (fun _ _ _ h => h) (Or.inl ⟨by rfl, ?_⟩) hHeld ?_
  · (intro u _; go_simp)
  (try simp only [Act.put, List.setIfInBounds_toArray, List.set_cons_zero, List.set_cons_succ])
  refine L3.late_take 6 (v := .agg #[.bool na, .slice ao al ac, .slice aO aL aC]) rfl (by kernel_rfl) (List.Mem.tail _ (List.Mem.tail _ (List.Mem.head _))) (by kernel_rfl) (by kernel_rfl) (by kernel_rfl) (by kernel_rfl) (fun _ _ _ h => h) (Or.inl ⟨by rfl, ?_⟩) hHeld ?_
  · (intro u hu; (try dsimp only at hu); go_split_ands; go_simp)
  (try simp only [Act.put, List.setIfInBounds_toArray, List.set_cons_zero, List.set_cons_succ])
  refine L3.late_free 7 (v := .pointer (some ⟨g + 1 + 1, 3, none⟩)) rfl (by kernel_rfl) (by kernel_rfl) (by kernel_rfl) (by kernel_rfl) (by kernel_rfl) (by kernel_rfl) (fun _ _ _ h => h) (Or.inl ⟨by rfl, ?_⟩) hHeld ?_
  · (intro u _; go_simp)
  (try simp only [Act.put, List.setIfInBounds_toArray, List.set_cons_zero, List.set_cons_succ])
  refine L3.late_take 8 (v := .agg #[.bool mb, .slice bp bq br, .slice bP bQ bR]) rfl (by kernel_rfl) (List.Mem.tail _ (List.Mem.tail _ (List.Mem.tail _ (List.Mem.head _)))) (by kernel_rfl) (by kernel_rfl) (by kernel_rfl) (by kernel_rfl) (fun _ _ _ h => h) (Or.inl ⟨by rfl, ?_⟩) hHeld ?_
  · (intro u hu; (try dsimp only at hu); go_split_ands; go_simp)
  (try simp only [Act.put, List.setIfInBounds_toArray, List.set_cons_zero, List.set_cons_succ])
  refine L3.late_free 10 (v := .pointer (some ⟨g + 1, 3, none⟩)) rfl (by kernel_rfl) (by kernel_rfl) (by kernel_rfl) (by kernel_rfl) (by kernel_rfl) (by kernel_rfl) (fun _ _ _ h => h) (Or.inl ⟨by rfl, ?_⟩) hHeld ?_
  · (intro u _; go_simp)
  (try simp only [Act.put, List.setIfInBounds_toArray, List.set_cons_zero, List.set_cons_succ])
  refine L3.late_take 11 (v := .agg #[.bool ma, .slice ap aq ar, .slice aP aQ aR]) rfl (by kernel_rfl) (List.Mem.tail _ (List.Mem.tail _ (List.Mem.tail _ (List.Mem.tail _ (List.Mem.head _))))) (by kernel_rfl) (by kernel_rfl) (by kernel_rfl) (by kernel_rfl) (fun _ _ _ h => h) (Or.inl ⟨by rfl, ?_⟩) hHeld ?_
  · (intro u hu; (try dsimp only at hu); go_split_ands; go_simp)
  (try simp only [Act.put, List.setIfInBounds_toArray, List.set_cons_zero, List.set_cons_succ])
  refine L3.late_free 12 (v := .pointer (some ⟨g + 1 + 1, 0, none⟩)) rfl (by kernel_rfl) (by kernel_rfl) (by kernel_rfl) (by kernel_rfl) (by kernel_rfl) (by kernel_rfl) (fun _ _ _ h => h) (Or.inl ⟨by rfl, ?_⟩) hHeld ?_
  · (intro u _; go_simp)
  (try simp only [Act.put, List.setIfInBounds_toArray, List.set_cons_zero, List.set_cons_succ])
  refine L3.late_take 13 (v := .agg #[.bool nb, .slice bo bl bc, .slice bO bL bC]) rfl (by kernel_rfl) (List.Mem.tail _ (List.Mem.tail _ (List.Mem.tail _ (List.Mem.tail _ (List.Mem.tail _ (List.Mem.head _)))))) (by kernel_rfl) (by kernel_rfl) (by kernel_rfl) (by kernel_rfl) (fun _ _ _ h => h) (Or.inl ⟨by rfl, ?_⟩) hHeld ?_
  · (intro u hu; (try dsimp only at hu); go_split_ands; go_simp)
  (try simp only [Act.put, List.setIfInBounds_toArray, List.set_cons_zero, List.set_cons_succ])
  refine L3.late_step 4 (by kernel_rfl) rfl (fun K hK => ?_)
  go_simp
  refine (c_rmul (ha.below B) (hb.below B) (by omega)).mono ?_
  rintro e u2 ⟨v, rfl, hp2, c2⟩
  have hp2 := hp2.rehome (B' := g + 1 + 1 + 1 + 1) (Nat.le_trans zw B.size)
  obtain ⟨np2, p2o, p2l, p2c, p2O, p2L, p2C, rfl⟩ := hp2.seeV
  have sp2 : RSz (x * y) (L + M) := ha.mul hb
  have B := B.trans (c2.mono B.size)
  clear c2 hHeld
  have hHeld := KEEP _ B
  go_wp2_with fail
  refine hK.out _ _ (L3.AllL.kept hHeld) ?_
  clear hK K
  (try simp only [Act.put, List.setIfInBounds_toArray, List.set_cons_zero, List.set_cons_succ])
  refine L3.late_step 9 (by kernel_rfl) rfl (fun K hK => ?_)
  go_simp
  refine (c_rmul (ha.below B) (hb2.below B) (by omega)).mono ?_
  rintro e u3 ⟨v, rfl, hp3, c3⟩
  have hp3 := hp3.rehome (B' := g + 1 + 1 + 1 + 1) (Nat.le_trans zw B.size)
  obtain ⟨np3, p3o, p3l, p3c, p3O, p3L, p3C, rfl⟩ := hp3.seeV
  have sp3 : RSz (x * y') (L + M) := ha.mul hb2
  have B := B.trans (c3.mono B.size)
  replace hp2 := hp2.below c3
  clear c3 hHeld
  have hHeld := KEEP _ B
  go_wp2_with fail
  refine hK.out _ _ (L3.AllL.kept hHeld) ?_
  clear hK K
  (try simp only [Act.put, List.setIfInBounds_toArray, List.set_cons_zero, List.set_cons_succ])
  refine L3.late_step 14 (by kernel_rfl) rfl (fun K hK => ?_)
  go_simp
  refine (c_rmul (ha2.below B) (hb.below B) (by omega)).mono ?_
  rintro e u4 ⟨v, rfl, hp4, c4⟩
  have hp4 := hp4.rehome (B' := g + 1 + 1 + 1 + 1) (Nat.le_trans zw B.size)
  obtain ⟨np4, p4o, p4l, p4c, p4O, p4L, p4C, rfl⟩ := hp4.seeV
  have sp4 : RSz (x' * y) (L + M) := ha2.mul hb
  have B := B.trans (c4.mono B.size)
  replace hp2 := hp2.below c4
  replace hp3 := hp3.below c4
  clear c4 hHeld
  have hHeld := KEEP _ B
  go_wp2_with fail
  refine hK.out _ _ (L3.AllL.kept hHeld) ?_
  clear hK K
  (try simp only [Act.put, List.setIfInBounds_toArray, List.set_cons_zero, List.set_cons_succ])
  refine L3.late_step 15 (by kernel_rfl) rfl (fun K hK => ?_)
  go_simp
  refine (c_radd (hp3.nm sp3 (by omega)) (hp4.nm sp4 (by omega)) (by omega)).mono ?_
  rintro e u5 ⟨v, rfl, hp5, c5⟩
  have hp5 := hp5.rehome (B' := g + 1 + 1 + 1 + 1) (Nat.le_trans zw B.size)
  obtain ⟨np5, p5o, p5l, p5c, p5O, p5L, p5C, rfl⟩ := hp5.seeV
  have B := B.trans (c5.mono B.size)
  replace hp2 := hp2.below c5
  replace hp3 := hp3.below c5
  replace hp4 := hp4.below c5
  clear c5 hHeld
  have hHeld := KEEP _ B
  go_wp2_with fail
  refine hK.out _ _ (L3.AllL.kept hHeld) ?_
  clear hK K
  (try simp only [Act.put, List.setIfInBounds_toArray, List.set_cons_zero, List.set_cons_succ])
  refine L3.late_free 16 (v := .agg #[.bool np2, .slice p2o p2l p2c, .slice p2O p2L p2C, .bool np5, .slice p5o p5l p5c, .slice p5O p5L p5C]) rfl (by kernel_rfl) (by kernel_rfl) (by kernel_rfl) (by kernel_rfl) (by kernel_rfl) (by kernel_rfl) (fun _ _ _ h => h) (Or.inl ⟨by rfl, ?_⟩) hHeld ?_
  · (intro u _; go_simp)
  (try simp only [Act.put, List.setIfInBounds_toArray, List.set_cons_zero, List.set_cons_succ])
  have HE : Hid (SlEnd w (x * y) (x * y' + x' * y) (.returned (.agg #[.bool np2, .slice p2o p2l p2c, .slice p2O p2L p2C, .bool np5, .slice p5o p5l p5c, .slice p5O p5L p5C])) ((((((u5.setCell ⟨g + 1 + 1 + 1, 0, none⟩ (.bool np2)).setCell ⟨g + 1 + 1 + 1, 1, none⟩ (.slice p2o p2l p2c)).setCell ⟨g + 1 + 1 + 1, 2, none⟩ (.slice p2O p2L p2C)).setCell ⟨g + 1 + 1 + 1, 3, none⟩ (.bool np5)).setCell ⟨g + 1 + 1 + 1, 4, none⟩ (.slice p5o p5l p5c)).setCell ⟨g + 1 + 1 + 1, 5, none⟩ (.slice p5O p5L p5C))) := ⟨_, _, _, _, _, _, _, _, _, _, _, _, _, _, rfl, (by rw [← HG.out]; exact ((((((hp2.one (by omega) 0 _).one (by omega) 1 _).one (by omega) 2 _).one (by omega) 3 _).one (by omega) 4 _).one (by omega) 5 _).rehome (by omega)), (by rw [← HG.out]; exact ((((((hp5.one (by omega) 0 _).one (by omega) 1 _).one (by omega) 2 _).one (by omega) 3 _).one (by omega) 4 _).one (by omega) 5 _).rehome (by omega)), (by rw [← HG.out]; exact ((((((bw.trans (B.mono (by omega))).setCell (p := ⟨g + 1 + 1 + 1, 0, none⟩) (by show g ≤ g + 1 + 1 + 1; omega) _).setCell (p := ⟨g + 1 + 1 + 1, 1, none⟩) (by show g ≤ g + 1 + 1 + 1; omega) _).setCell (p := ⟨g + 1 + 1 + 1, 2, none⟩) (by show g ≤ g + 1 + 1 + 1; omega) _).setCell (p := ⟨g + 1 + 1 + 1, 3, none⟩) (by show g ≤ g + 1 + 1 + 1; omega) _).setCell (p := ⟨g + 1 + 1 + 1, 4, none⟩) (by show g ≤ g + 1 + 1 + 1; omega) _).setCell (p := ⟨g + 1 + 1 + 1, 5, none⟩) (by show g ≤ g + 1 + 1 + 1; omega) _)⟩
  have HW : Hid (SlC ((((((u5.setCell ⟨g + 1 + 1 + 1, 0, none⟩ (.bool np2)).setCell ⟨g + 1 + 1 + 1, 1, none⟩ (.slice p2o p2l p2c)).setCell ⟨g + 1 + 1 + 1, 2, none⟩ (.slice p2O p2L p2C)).setCell ⟨g + 1 + 1 + 1, 3, none⟩ (.bool np5)).setCell ⟨g + 1 + 1 + 1, 4, none⟩ (.slice p5o p5l p5c)).setCell ⟨g + 1 + 1 + 1, 5, none⟩ (.slice p5O p5L p5C)) (g + 1 + 1 + 1) np2 (.slice p2o p2l p2c) (.slice p2O p2L p2C) np5 (.slice p5o p5l p5c) (.slice p5O p5L p5C)) := (qR.below B).write _ _ _ _ _ _
  have qA2 : SlC ((((((u5.setCell ⟨g + 1 + 1 + 1, 0, none⟩ (.bool np2)).setCell ⟨g + 1 + 1 + 1, 1, none⟩ (.slice p2o p2l p2c)).setCell ⟨g + 1 + 1 + 1, 2, none⟩ (.slice p2O p2L p2C)).setCell ⟨g + 1 + 1 + 1, 3, none⟩ (.bool np5)).setCell ⟨g + 1 + 1 + 1, 4, none⟩ (.slice p5o p5l p5c)).setCell ⟨g + 1 + 1 + 1, 5, none⟩ (.slice p5O p5L p5C)) (g + 1) na (.slice ao al ac) (.slice aO aL aC) ma (.slice ap aq ar) (.slice aP aQ aR) := ((((((qA.below B).other (by omega) 0 _).other (by omega) 1 _).other (by omega) 2 _).other (by omega) 3 _).other (by omega) 4 _).other (by omega) 5 _
  have qB2 : SlC ((((((u5.setCell ⟨g + 1 + 1 + 1, 0, none⟩ (.bool np2)).setCell ⟨g + 1 + 1 + 1, 1, none⟩ (.slice p2o p2l p2c)).setCell ⟨g + 1 + 1 + 1, 2, none⟩ (.slice p2O p2L p2C)).setCell ⟨g + 1 + 1 + 1, 3, none⟩ (.bool np5)).setCell ⟨g + 1 + 1 + 1, 4, none⟩ (.slice p5o p5l p5c)).setCell ⟨g + 1 + 1 + 1, 5, none⟩ (.slice p5O p5L p5C)) (g + 1 + 1) nb (.slice bo bl bc) (.slice bO bL bC) mb (.slice bp bq br) (.slice bP bQ bR) := ((((((qB.below B).other (by omega) 0 _).other (by omega) 1 _).other (by omega) 2 _).other (by omega) 3 _).other (by omega) 4 _).other (by omega) 5 _
  have hH2 : L3.AllL ((((((u5.setCell ⟨g + 1 + 1 + 1, 0, none⟩ (.bool np2)).setCell ⟨g + 1 + 1 + 1, 1, none⟩ (.slice p2o p2l p2c)).setCell ⟨g + 1 + 1 + 1, 2, none⟩ (.slice p2O p2L p2C)).setCell ⟨g + 1 + 1 + 1, 3, none⟩ (.bool np5)).setCell ⟨g + 1 + 1 + 1, 4, none⟩ (.slice p5o p5l p5c)).setCell ⟨g + 1 + 1 + 1, 5, none⟩ (.slice p5O p5L p5C)) [(1, fun w' => w'.cell? ⟨g + 1, 0, none⟩ = some (.bool na) ∧ w'.cell? ⟨g + 1, 1, none⟩ = some (.slice ao al ac) ∧ w'.cell? ⟨g + 1, 2, none⟩ = some (.slice aO aL aC)), (3, fun w' => w'.cell? ⟨g + 1 + 1, 0, none⟩ = some (.bool nb) ∧ w'.cell? ⟨g + 1 + 1, 1, none⟩ = some (.slice bo bl bc) ∧ w'.cell? ⟨g + 1 + 1, 2, none⟩ = some (.slice bO bL bC)), (6, fun w' => w'.cell? ⟨g + 1, 0, none⟩ = some (.bool na) ∧ w'.cell? ⟨g + 1, 1, none⟩ = some (.slice ao al ac) ∧ w'.cell? ⟨g + 1, 2, none⟩ = some (.slice aO aL aC)), (8, fun w' => w'.cell? ⟨g + 1 + 1, 3, none⟩ = some (.bool mb) ∧ w'.cell? ⟨g + 1 + 1, 4, none⟩ = some (.slice bp bq br) ∧ w'.cell? ⟨g + 1 + 1, 5, none⟩ = some (.slice bP bQ bR)), (11, fun w' => w'.cell? ⟨g + 1, 3, none⟩ = some (.bool ma) ∧ w'.cell? ⟨g + 1, 4, none⟩ = some (.slice ap aq ar) ∧ w'.cell? ⟨g + 1, 5, none⟩ = some (.slice aP aQ aR)), (13, fun w' => w'.cell? ⟨g + 1 + 1, 0, none⟩ = some (.bool nb) ∧ w'.cell? ⟨g + 1 + 1, 1, none⟩ = some (.slice bo bl bc) ∧ w'.cell? ⟨g + 1 + 1, 2, none⟩ = some (.slice bO bL bC))] := ⟨⟨(qA2.below (Below.refl _ _)).cells.1, (qA2.below (Below.refl _ _)).cells.2.1, (qA2.below (Below.refl _ _)).cells.2.2.1⟩, ⟨(qB2.below (Below.refl _ _)).cells.1, (qB2.below (Below.refl _ _)).cells.2.1, (qB2.below (Below.refl _ _)).cells.2.2.1⟩, ⟨(qA2.below (Below.refl _ _)).cells.1, (qA2.below (Below.refl _ _)).cells.2.1, (qA2.below (Below.refl _ _)).cells.2.2.1⟩, ⟨(qB2.below (Below.refl _ _)).cells.2.2.2.1, (qB2.below (Below.refl _ _)).cells.2.2.2.2.1, (qB2.below (Below.refl _ _)).cells.2.2.2.2.2⟩, ⟨(qA2.below (Below.refl _ _)).cells.2.2.2.1, (qA2.below (Below.refl _ _)).cells.2.2.2.2.1, (qA2.below (Below.refl _ _)).cells.2.2.2.2.2⟩, ⟨(qB2.below (Below.refl _ _)).cells.1, (qB2.below (Below.refl _ _)).cells.2.1, (qB2.below (Below.refl _ _)).cells.2.2.1⟩, trivial⟩
  obtain ⟨y0, y1, y2, y3, y4, y5⟩ := (qR.below B).cells
  have f0 := (qR.below B).thaw 0
  have f1 := (qR.below B).thaw 1
  have f2 := (qR.below B).thaw 2
  have f3 := (qR.below B).thaw 3
  have f4 := (qR.below B).thaw 4
  have f5 := (qR.below B).thaw 5
  refine L3.late_step 17 (by kernel_rfl) rfl (fun K hK => ?_)
  go_simp
  refine hK.out _ _ (L3.AllL.kept hH2) ?_
  clear hK K
  (try simp only [Act.put, List.setIfInBounds_toArray, List.set_cons_zero, List.set_cons_succ])
  clear y0 y1 y2 y3 y4 y5 f0 f1 f2 f3 f4 f5 qA2 qB2 hH2
  refine L3.late_done (by kernel_rfl) ?_ _
  clear hHeld KEEP
  clear B bw zw qA qB qR ha ha2 hb hb2 hp2 hp3 hp4 hp5
  go_wp2_with fail
  (try simp only [Exit.inBlock, Exit.then])
  exact bodyPost_ret (results_cell_row rfl _ _ (g + 1 + 1 + 1) 43 _ (0, 0) _ rfl HW.out Tryz.underlying43 rfl (by kernel_rfl)) rfl HE.out
theorem mBoolsZero (w : World) : (Go.method 268 56 (.agg #[]) "Zero").run Tryz.prog w = .ok (52, .agg #[]) w := by kernel_rfl
theorem entBoolsZero : ∀ args w, (callFunc 52 args).run Tryz.prog w = .ok (.enter 52 args) w := enters_of Tryz.func52 (by kernel_rfl) rfl
theorem mBoolsAdd (w : World) : (Go.method 268 56 (.agg #[]) "Add").run Tryz.prog w = .ok (54, .agg #[]) w := by kernel_rfl
theorem entBoolsAdd : ∀ args w, (callFunc 54 args).run Tryz.prog w = .ok (.enter 54 args) w := enters_of Tryz.func54 (by kernel_rfl) rfl
theorem mIntsOne (w : World) : (Go.method 268 54 (.agg #[]) "One").run Tryz.prog w = .ok (41, .agg #[]) w := by kernel_rfl
theorem entIntsOne : ∀ args w, (callFunc 41 args).run Tryz.prog w = .ok (.enter 41 args) w := enters_of Tryz.func41 (by kernel_rfl) rfl
set_option maxRecDepth 100000 in
set_option maxHeartbeats 6400000 in
theorem boolsZero (w : World) : Calls Tryz.prog 52 #[.agg #[]] w fun e w' => e = .returned (.bool false) ∧ Below w.heap.size w w' := by
  have HE : Hid (∀ o, Below w.heap.size w (w.alloc o)) := fun o => belowA w o
  go_enter Tryz.func52, Tryz.ntmps52
  go_wp2
  go_ret
  exact ⟨by first | rfl | simp, HE.out _⟩
set_option maxRecDepth 100000 in
set_option maxHeartbeats 6400000 in
theorem boolsAdd (p q : Bool) (w : World) : Calls Tryz.prog 54 #[.agg #[], .bool p, .bool q] w fun e w' => e = .returned (.bool (p || q)) ∧ Below w.heap.size w w' := by
  cases p <;> cases q
  all_goals
    have HE : Hid (∀ o, Below w.heap.size w (w.alloc o)) := fun o => belowA w o
    go_enter Tryz.func54, Tryz.ntmps54
    go_wp2
    go_ret
    exact ⟨by first | rfl | simp, HE.out _⟩
set_option maxRecDepth 100000 in
set_option maxHeartbeats 6400000 in
theorem intsOne (w : World) : Calls Tryz.prog 41 #[.agg #[]] w fun e w' => e = .returned (.int .i64 1) ∧ Below w.heap.size w w' := by
  have HE : Hid (∀ o, Below w.heap.size w (w.alloc o)) := fun o => belowA w o
  go_enter Tryz.func41, Tryz.ntmps41
  go_wp2
  go_ret
  exact ⟨by first | rfl | simp, HE.out _⟩
set_option maxRecDepth 100000 in
set_option maxHeartbeats 6400000 in
theorem prodInt0 (w : World) : Calls Tryz.prog 74 #[.iface 54 (.agg #[]), .slice none 0 0] w fun e w' => e = .returned (.int .i64 1) ∧ Below w.heap.size w w' := by
  have hm := mIntsOne
  have he := entIntsOne
  have CC : Hid _ := intsOne w
  go_enter Tryz.func74, Tryz.ntmps74
  go_wp2_with fail
  refine Calls.mono CC.out ?_
  rintro e w1 ⟨rfl, b1⟩
  have HB : Hid (Below w.heap.size w w1) := b1
  clear CC b1
  go_wp2
  go_loopg [6, 16] 0 (fun g1 v6 v16 wr => v6 = .int .i64 1 ∧ v16 = .int .i64 0 ∧ w1 = wr)
  case atStart => exact ⟨rfl, rfl, rfl⟩
  case round =>
    obtain ⟨rfl, rfl, rfl⟩ := hrel
    go_wp2
    go_ret
    exact ⟨rfl, HB.out⟩
set_option maxRecDepth 100000 in
set_option maxHeartbeats 6400000 in
theorem sumBool2 (b0 : Nat) (w : World) (h0 : w.cell? ⟨b0, 0, none⟩ = some (.bool false)) (h1 : w.cell? ⟨b0, 1, none⟩ = some (.bool true)) (hb0 : b0 < w.heap.size) : Calls Tryz.prog 73 #[.iface 56 (.agg #[]), .slice (some ⟨b0, 0, none⟩) 2 2] w fun e w' => e = .returned (.bool true) ∧ Below w.heap.size w w' := by
  have hm := mBoolsZero
  have he := entBoolsZero
  have hm2 := mBoolsAdd
  have he2 := entBoolsAdd
  have CC : Hid _ := boolsZero w
  have HC : Hid (∀ W, Below w.heap.size w W → W.cell? ⟨b0, 0, none⟩ = some (.bool false) ∧ W.cell? ⟨b0, 1, none⟩ = some (.bool true)) := fun W h => ⟨by rw [World.cell?_of_block (h.block b0 hb0)]; exact h0, by rw [World.cell?_of_block (h.block b0 hb0)]; exact h1⟩
  clear h0 h1
  go_enter Tryz.func73, Tryz.ntmps73
  go_wp2_with fail
  refine Calls.mono CC.out ?_
  rintro e w1 ⟨rfl, b1⟩
  have HB : Hid (Below w.heap.size w w1) := b1
  clear CC b1
  go_wp2
  go_loopg [6, 16] 3 (fun g1 v6 v16 wr => ∃ i : Nat, i ≤ 2 ∧ v16 = .int .i64 i ∧ v6 = .bool (decide (i = 2)) ∧ 2 - i ≤ g1 ∧ Hid (Below w.heap.size w wr))
  case atStart => exact ⟨0, by omega, rfl, rfl, by omega, HB⟩
  case round =>
    clear HB
    obtain ⟨i, hi, rfl, rfl, hg1, HB⟩ := hrel
    obtain ⟨c0, c1⟩ := HC.out _ HB.out
    match i, hi with
    | 0, _ =>
      have CC : Hid _ := boolsAdd false false wr
      go_wp2_with fail
      refine Calls.mono CC.out ?_
      rintro e w2 ⟨rfl, b2⟩
      have HB2 : Hid (Below w.heap.size w w2) := bstep HB.out b2
      clear CC b2 c0 c1
      go_wp2
      go_roundg 1
      case measure => omega
      case rel => exact ⟨1, by omega, rfl, rfl, by omega, HB2⟩
    | 1, _ =>
      have CC : Hid _ := boolsAdd false true wr
      go_wp2_with fail
      refine Calls.mono CC.out ?_
      rintro e w2 ⟨rfl, b2⟩
      have HB2 : Hid (Below w.heap.size w w2) := bstep HB.out b2
      clear CC b2 c0 c1
      go_wp2
      go_roundg 0
      case measure => omega
      case rel => exact ⟨2, by omega, rfl, rfl, by omega, HB2⟩
    | 2, _ =>
      clear c0 c1
      go_wp2
      go_ret
      exact ⟨rfl, HB.out⟩
end Go.Proofs.YtaafijifiiiblaaGreat
