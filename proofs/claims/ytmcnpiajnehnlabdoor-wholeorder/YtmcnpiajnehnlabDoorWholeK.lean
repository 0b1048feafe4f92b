/-
  Proved here: what a step of Bezout in package whole answers.
-/
import Derived.Test.YtmcnpiajnehnlabDoorWholeJ
namespace Go.Proofs.YtmcnpiajnehnlabDoor
open Go.RowKit
attribute [local go_sem ↓] Go.wp_at_zero Go.wp_at_succ

/-- The six cells of a row. -/
def RCell (w : World) (g : Nat) (n0 : Bool) (m0 : Value) (n1 : Bool) (m1 : Value) (n2 : Bool) (m2 : Value) : Prop := w.heap[g]? = some (.cells #[.bool n0, m0, .bool n1, m1, .bool n2, m2] 56 (0, 0))
section
variable {w w' : World} {g : Nat} {n0 n1 n2 : Bool} {m0 m1 m2 : Value}
theorem RCell.cells (h : RCell w g n0 m0 n1 m1 n2 m2) : w.cell? ⟨g, 0, none⟩ = some (.bool n0) ∧ w.cell? ⟨g, 1, none⟩ = some m0 ∧ w.cell? ⟨g, 2, none⟩ = some (.bool n1) ∧ w.cell? ⟨g, 3, none⟩ = some m1 ∧ w.cell? ⟨g, 4, none⟩ = some (.bool n2) ∧ w.cell? ⟨g, 5, none⟩ = some m2 := by
  refine ⟨?_, ?_, ?_, ?_, ?_, ?_⟩ <;> (rw [cell_of_row w g _ _ _ _ h]; rfl)
theorem RCell.thaw (h : RCell w g n0 m0 n1 m1 n2 m2) (k : Nat) : w.frozen? ⟨g, k, none⟩ = false := frozen_of_row w g k _ _ h
theorem RCell.below (h : RCell w g n0 m0 n1 m1 n2 m2) (hb : Below w.heap.size w w') : RCell w' g n0 m0 n1 m1 n2 m2 := by
  unfold RCell; rw [hb.block _ (Array.getElem?_eq_some_iff.1 h).1]; exact h
theorem RCell.other (h : RCell w g n0 m0 n1 m1 n2 m2) {g2 : Nat} (hne : g ≠ g2) (k : Nat) (v : Value) : RCell (w.setCell ⟨g2, k, none⟩ v) g n0 m0 n1 m1 n2 m2 := by
  unfold RCell
  rw [heap_setCell_other]
  · exact h
  · exact hne
theorem RCell.write (h : RCell w g n0 m0 n1 m1 n2 m2) (k0 : Bool) (u0 : Value) (k1 : Bool) (u1 : Value) (k2 : Bool) (u2 : Value) :
    RCell ((((((w.setCell ⟨g, 0, none⟩ (.bool k0)).setCell ⟨g, 1, none⟩ u0).setCell ⟨g, 2, none⟩ (.bool k1)).setCell ⟨g, 3, none⟩ u1).setCell ⟨g, 4, none⟩ (.bool k2)).setCell ⟨g, 5, none⟩ u2) g k0 u0 k1 u1 k2 u2 := by
  unfold RCell
  have h1 := heap_setCell_same w g 0 _ _ (.bool k0) h
  have h2 := heap_setCell_same _ g 1 _ _ u0 h1
  have h3 := heap_setCell_same _ g 2 _ _ (.bool k1) h2
  have h4 := heap_setCell_same _ g 3 _ _ u1 h3
  have h5 := heap_setCell_same _ g 4 _ _ (.bool k2) h4
  have h6 := heap_setCell_same _ g 5 _ _ u2 h5
  rw [h6]
  rfl
theorem rcell_step {o : Obj} (h : RCell w g n0 m0 n1 m1 n2 m2) : RCell (w.alloc o) g n0 m0 n1 m1 n2 m2 := h.below (belowA _ _)
theorem rcell_new (w : World) {k : Nat} (hk : w.heap.size = k) : RCell (w.alloc (.cells #[.bool n0, m0, .bool n1, m1, .bool n2, m2] 56)) k n0 m0 n1 m1 n2 m2 := by
  subst hk; exact heap_alloc_new w _
end
theorem keepS6 {w : World} {g b o : Nat} {v0 v1 v2 v3 v4 v5 x : Value} (hne : ¬ b = g) (h : w.cell? ⟨b, o, none⟩ = some x) : ((((((w.setCell ⟨g, 0, none⟩ v0).setCell ⟨g, 1, none⟩ v1).setCell ⟨g, 2, none⟩ v2).setCell ⟨g, 3, none⟩ v3).setCell ⟨g, 4, none⟩ v4).setCell ⟨g, 5, none⟩ v5).cell? ⟨b, o, none⟩ = some x :=
  keepS hne (keepS hne (keepS hne h))
/-- Behind the six stores of a row all else is as it was. -/
theorem row_below {w wr : World} {g : Nat} {v0 v1 v2 v3 v4 v5 : Value} (hb : Below w.heap.size w wr) (hg : w.heap.size ≤ g) :
    Below w.heap.size w ((((((wr.setCell ⟨g, 0, none⟩ v0).setCell ⟨g, 1, none⟩ v1).setCell ⟨g, 2, none⟩ v2).setCell ⟨g, 3, none⟩ v3).setCell ⟨g, 4, none⟩ v4).setCell ⟨g, 5, none⟩ v5) :=
  (((((hb.setCell (p := ⟨g, 0, none⟩) hg _).setCell (p := ⟨g, 1, none⟩) hg _).setCell (p := ⟨g, 2, none⟩) hg _).setCell (p := ⟨g, 3, none⟩) hg _).setCell (p := ⟨g, 4, none⟩) hg _).setCell (p := ⟨g, 5, none⟩) hg _
/-- A number in a row of the call's own that lies elsewhere. -/
def Away (w : World) (g : Nat) (v : Value) (z : Int) : Prop := ∃ neg m xs, v = .agg #[.bool neg, m] ∧ Own (g + 1) 68 w m xs ∧ xs.length ≤ 1000000 ∧ zv neg (val xs) = z
theorem Away.num {w : World} {g : Nat} {v : Value} {z : Int} (h : Away w g v z) : INum w v z := by
  obtain ⟨neg, m, xs, rfl, ho, hl, hz⟩ := h
  obtain ⟨ao, n, cap, rfl⟩ := ho.sl
  exact ⟨_, _, _, _, _, rfl, ho.num, hl, hz⟩
theorem Away.mono {w : World} {g g2 : Nat} {v : Value} {z : Int} (h : Away w g v z) (hg : g2 ≤ g) : Away w g2 v z := by
  obtain ⟨neg, m, xs, e, ho, hl, hz⟩ := h
  exact ⟨neg, m, xs, e, ho.mono (by omega), hl, hz⟩
theorem Away.below {w w' : World} {g : Nat} {v : Value} {z : Int} (h : Away w g v z) (hb : Below w.heap.size w w') : Away w' g v z := by
  obtain ⟨neg, m, xs, e, ho, hl, hz⟩ := h
  exact ⟨neg, m, xs, e, ho.below hb, hl, hz⟩
theorem Away.set {w : World} {g g2 : Nat} {v : Value} {z : Int} (h : Away w g v z) (hg : g2 ≤ g) (k : Nat) (u : Value) : Away (w.setCell ⟨g2, k, none⟩ u) g v z := by
  obtain ⟨neg, m, xs, e, ho, hl, hz⟩ := h
  refine ⟨neg, m, xs, e, ho.other u ?_, hl, hz⟩
  cases hm : m.ownBlock with
  | none => exact Or.inl rfl
  | some j =>
    right
    intro e
    rw [Option.some.injEq] at e
    have := (ho.block j hm).1
    omega
theorem Away.set6 {w : World} {g g2 : Nat} {v : Value} {z : Int} (h : Away w g v z) (hg : g2 ≤ g) {v0 v1 v2 v3 v4 v5 : Value} :
    Away ((((((w.setCell ⟨g2, 0, none⟩ v0).setCell ⟨g2, 1, none⟩ v1).setCell ⟨g2, 2, none⟩ v2).setCell ⟨g2, 3, none⟩ v3).setCell ⟨g2, 4, none⟩ v4).setCell ⟨g2, 5, none⟩ v5) g v z :=
  (((((h.set hg 0 _).set hg 1 _).set hg 2 _).set hg 3 _).set hg 4 _).set hg 5 _
theorem IOwn.away {B g : Nat} {w : World} {v : Value} {z : Int} (h : IOwn B w v z) (hg : g < B) {L : Nat} (hs : Sz z L) (hL : L ≤ 1000000) : Away w g v z := by
  obtain ⟨m, rfl, ho⟩ := h
  exact ⟨_, m, _, rfl, ho.mono (by omega), Nat.le_trans hs.len hL, by rw [val_lim, zv_self]⟩
/-- A row of three numbers, each away from a block. -/
def Row3 (w : World) (g : Nat) (n0 : Bool) (m0 : Value) (n1 : Bool) (m1 : Value) (n2 : Bool) (m2 : Value) (r s t : Int) : Prop := Away w g (.agg #[.bool n0, m0]) r ∧ Away w g (.agg #[.bool n1, m1]) s ∧ Away w g (.agg #[.bool n2, m2]) t
theorem Row3.below {w w' : World} {g : Nat} {n0 : Bool} {m0 : Value} {n1 : Bool} {m1 : Value} {n2 : Bool} {m2 : Value} {r s t : Int} (h : Row3 w g n0 m0 n1 m1 n2 m2 r s t) (hb : Below w.heap.size w w') : Row3 w' g n0 m0 n1 m1 n2 m2 r s t := ⟨h.1.below hb, h.2.1.below hb, h.2.2.below hb⟩
/-- What a step leaves. -/
def StepEnd (w : World) (g : Nat) (r s t : Int) (e : Ending) (w' : World) : Prop := ∃ n0 m0 n1 m1 n2 m2, e = .returned (.agg #[.bool n0, m0, .bool n1, m1, .bool n2, m2]) ∧ Row3 w' g n0 m0 n1 m1 n2 m2 r s t ∧ Below w.heap.size w w'
theorem Away.sl {w : World} {g : Nat} {n : Bool} {m : Value} {z : Int} (h : Away w g (.agg #[.bool n, m]) z) : ∃ ao k cap, m = .slice ao k cap := by
  obtain ⟨neg, m', xs, e, ho, _, _⟩ := h
  simp only [Value.agg.injEq, Array.mk.injEq, List.cons.injEq, Value.bool.injEq, and_true] at e
  obtain ⟨_, rfl⟩ := e
  exact ho.sl

set_option maxRecDepth 100000 in
set_option maxHeartbeats 6400000 in
theorem c_step {na0 nb0 : Bool} {ao0 bo0 : Option Addr} {al0 ac0 bl0 bc0 : Nat} {na1 nb1 : Bool} {ao1 bo1 : Option Addr} {al1 ac1 bl1 bc1 : Nat} {na2 nb2 : Bool} {ao2 bo2 : Option Addr} {al2 ac2 bl2 bc2 : Nat} {r0 s0 t0 r1 s1 t1 : Int} {w : World} {G : Nat} (hG : G < w.heap.size) (ia0 : INum w (.agg #[.bool na0, .slice ao0 al0 ac0]) r0) (ia1 : INum w (.agg #[.bool na1, .slice ao1 al1 ac1]) s0) (ia2 : INum w (.agg #[.bool na2, .slice ao2 al2 ac2]) t0) (ib0 : INum w (.agg #[.bool nb0, .slice bo0 bl0 bc0]) r1) (ib1 : INum w (.agg #[.bool nb1, .slice bo1 bl1 bc1]) s1) (ib2 : INum w (.agg #[.bool nb2, .slice bo2 bl2 bc2]) t1) {L : Nat} (hL : L ≤ 1000000) (zs : Sz (r0.tdiv r1 * s1) L) (zt : Sz (r0.tdiv r1 * t1) L) (zs2 : Sz (s0 - r0.tdiv r1 * s1) L) (zt2 : Sz (t0 - r0.tdiv r1 * t1) L) :
    Calls Tryd.prog 34 #[.agg #[.bool na0, .slice ao0 al0 ac0, .bool na1, .slice ao1 al1 ac1, .bool na2, .slice ao2 al2 ac2], .agg #[.bool nb0, .slice bo0 bl0 bc0, .bool nb1, .slice bo1 bl1 bc1, .bool nb2, .slice bo2 bl2 bc2]] w fun e w' => StepEnd w G (rz r0 r1) (s0 - r0.tdiv r1 * s1) (t0 - r0.tdiv r1 * t1) e w' := by
  obtain ⟨W1, hW1⟩ : ∃ W1, W1 = ((w.alloc (.cells #[.bool na0, .slice ao0 al0 ac0, .bool na1, .slice ao1 al1 ac1, .bool na2, .slice ao2 al2 ac2] 56)).alloc (.cells #[.bool nb0, .slice bo0 bl0 bc0, .bool nb1, .slice bo1 bl1 bc1, .bool nb2, .slice bo2 bl2 bc2] 56)).alloc (.cells #[.bool false, .slice none 0 0, .bool false, .slice none 0 0, .bool false, .slice none 0 0] 56) := ⟨_, rfl⟩
  have q0 : RCell W1 (w.heap.size) na0 (.slice ao0 al0 ac0) na1 (.slice ao1 al1 ac1) na2 (.slice ao2 al2 ac2) := by rw [hW1]; exact rcell_step (rcell_step (rcell_new _ (by simp)))
  have q1 : RCell W1 (w.heap.size + 1) nb0 (.slice bo0 bl0 bc0) nb1 (.slice bo1 bl1 bc1) nb2 (.slice bo2 bl2 bc2) := by rw [hW1]; exact rcell_step (rcell_new _ (by simp))
  have q2 : RCell W1 (w.heap.size + 1 + 1) false (.slice none 0 0) false (.slice none 0 0) false (.slice none 0 0) := by rw [hW1]; exact rcell_new _ (by simp)
  have hb : Below w.heap.size w W1 := by rw [hW1]; exact bstep (bstep (belowA w _) (belowA _ _)) (belowA _ _)
  have hsz : w.heap.size + 1 + 1 < W1.heap.size := by rw [hW1]; simp
  replace ia0 := ia0.below hb
  replace ia1 := ia1.below hb
  replace ia2 := ia2.below hb
  replace ib0 := ib0.below hb
  replace ib1 := ib1.below hb
  replace ib2 := ib2.below hb
  have HW1 : Hid (W1 = ((w.alloc (.cells #[.bool na0, .slice ao0 al0 ac0, .bool na1, .slice ao1 al1 ac1, .bool na2, .slice ao2 al2 ac2] 56)).alloc (.cells #[.bool nb0, .slice bo0 bl0 bc0, .bool nb1, .slice bo1 bl1 bc1, .bool nb2, .slice bo2 bl2 bc2] 56)).alloc (.cells #[.bool false, .slice none 0 0, .bool false, .slice none 0 0, .bool false, .slice none 0 0] 56)) := hW1
  clear hW1
  obtain ⟨X, hX⟩ : ∃ X, X = s0 - r0.tdiv r1 * s1 := ⟨_, rfl⟩
  obtain ⟨Y, hY⟩ : ∃ Y, Y = t0 - r0.tdiv r1 * t1 := ⟨_, rfl⟩
  have HX : Hid (s0 - r0.tdiv r1 * s1 = X) := hX.symm
  have HY : Hid (t0 - r0.tdiv r1 * t1 = Y) := hY.symm
  rw [← hX] at zs2 ⊢
  rw [← hY] at zt2 ⊢
  clear hX hY
  obtain ⟨R, hR⟩ : ∃ R, R = rz r0 r1 := ⟨_, rfl⟩
  have HR : Hid (R = rz r0 r1) := hR
  have zR : Sz R 1000000 := by rw [hR]; exact ia0.sz.le (rz_le _ _)
  have zQ : Sz (r0.tdiv r1) 1000000 := ia0.sz.le (tdiv_le _ _)
  rw [← hR]
  clear hR
  obtain ⟨g, hg⟩ : ∃ g, g = w.heap.size := ⟨_, rfl⟩
  rw [← hg] at q0 q1 q2 hsz
  have HG : Hid (g = w.heap.size) := hg
  obtain ⟨a0, a1, a2, a3, a4, a5⟩ := q0.cells
  obtain ⟨b0, b1, b2, b3, b4, b5⟩ := q1.cells
  go_enter Tryd.func34, Tryd.ntmps34
  go_wp2_with fail
  rw [← HW1.out, ← hg]
  clear HW1 hg
  refine (c_quo ia0 ib0).mono ?_
  rintro e w2 ⟨mq, mr, rfl, hq, hr, hqr, hb2⟩
  obtain ⟨qo, ql, qc, rfl⟩ := hq.sl
  obtain ⟨ro, rl, rc, rfl⟩ := hr.sl
  rw [← HR.out]
  rw [← HR.out] at hr
  have iQ := INum.mk' hq zQ
  have aR := (IOwn.away ⟨_, rfl, hr⟩ (g := g + 1 + 1) hsz zR (Nat.le_refl _))
  obtain ⟨bq, hbq⟩ : ∃ b, b = decide (r0.tdiv r1 < 0) := ⟨_, rfl⟩
  obtain ⟨br, hbr⟩ : ∃ b, b = decide (R < 0) := ⟨_, rfl⟩
  rw [← hbq] at iQ
  rw [← hbr] at aR
  rw [← hbq, ← hbr]
  clear hbq hbr hq hr hqr zQ
  replace q0 := q0.below hb2
  replace q1 := q1.below hb2
  replace q2 := q2.below hb2
  replace hb := bstep hb hb2
  replace ia1 := ia1.below hb2
  replace ia2 := ia2.below hb2
  replace ib1 := ib1.below hb2
  replace ib2 := ib2.below hb2
  have hsz2 := Nat.lt_of_lt_of_le hsz hb2.size
  clear ia0 ib0 hb2 a0 a1 a2 a3 a4 a5 b0 b1 b2 b3 b4 b5
  obtain ⟨W3, hW3⟩ : ∃ W3, W3 = (w2.alloc (.cells #[.bool bq, .slice qo ql qc] 25)).alloc (.cells #[.bool br, .slice ro rl rc] 25) := ⟨_, rfl⟩
  have p0 : ICell W3 (w2.heap.size) bq (.slice qo ql qc) := by rw [hW3]; exact icell_step (icell_new _ rfl)
  have p1 : ICell W3 (w2.heap.size + 1) br (.slice ro rl rc) := by rw [hW3]; exact icell_new _ (by simp)
  have hb3 : Below w2.heap.size w2 W3 := by rw [hW3]; exact bstep (belowA w2 _) (belowA _ _)
  replace q0 := q0.below hb3
  replace q1 := q1.below hb3
  replace q2 := q2.below hb3
  replace hb := bstep hb hb3
  replace iQ := iQ.below hb3
  replace aR := aR.below hb3
  replace ia1 := ia1.below hb3
  replace ia2 := ia2.below hb3
  replace ib1 := ib1.below hb3
  replace ib2 := ib2.below hb3
  have hsz3 := Nat.lt_of_lt_of_le hsz2 hb3.size
  have HW3 : Hid (W3 = (w2.alloc (.cells #[.bool bq, .slice qo ql qc] 25)).alloc (.cells #[.bool br, .slice ro rl rc] 25)) := hW3
  clear hW3 hb3
  obtain ⟨v, hv⟩ : ∃ v, v = w2.heap.size := ⟨_, rfl⟩
  rw [← hv] at p0 p1 hsz2
  go_wp2_with fail
  rw [← HW3.out, ← hv]
  clear HW3 hv
  obtain ⟨c0, c1⟩ := p1.cells
  obtain ⟨c2, c3⟩ := p0.cells
  obtain ⟨_, _, a2, a3, a4, a5⟩ := q0.cells
  obtain ⟨_, _, b2, b3, b4, b5⟩ := q1.cells
  have HQ2 : Hid (RCell W3.drew (g + 1 + 1) false (.slice none 0 0) false (.slice none 0 0) false (.slice none 0 0)) := q2
  have HIS : Hid (INum W3.drew (.agg #[.bool bq, .slice qo ql qc]) (r0.tdiv r1) ∧ Away W3.drew (g + 1 + 1) (.agg #[.bool br, .slice ro rl rc]) R) := ⟨iQ.below (below_drew' _), aR.below (below_drew' _)⟩
  have HIA : Hid (INum W3.drew (.agg #[.bool na1, .slice ao1 al1 ac1]) s0 ∧ INum W3.drew (.agg #[.bool na2, .slice ao2 al2 ac2]) t0 ∧ INum W3.drew (.agg #[.bool nb1, .slice bo1 bl1 bc1]) s1 ∧ INum W3.drew (.agg #[.bool nb2, .slice bo2 bl2 bc2]) t1) := ⟨ia1.below (below_drew' _), ia2.below (below_drew' _), ib1.below (below_drew' _), ib2.below (below_drew' _)⟩
  have hn1 : ¬ v = g + 1 + 1 := by omega
  have hn2 : ¬ v + 1 = g + 1 + 1 := by omega
  have hn3 : ¬ g = g + 1 + 1 := by omega
  have hn4 : ¬ g + 1 = g + 1 + 1 := by omega
  clear p0 p1 q0 q1 q2 iQ aR ia1 ia2 ib1 ib2
  refine region_late [(0, fun w' => w'.cell? ⟨v + 1, 0, none⟩ = some (.bool br) ∧ w'.cell? ⟨v + 1, 1, none⟩ = some (.slice ro rl rc)), (2, fun w' => w'.cell? ⟨g, 2, none⟩ = some (.bool na1) ∧ w'.cell? ⟨g, 3, none⟩ = some (.slice ao1 al1 ac1)), (3, fun w' => w'.cell? ⟨v, 0, none⟩ = some (.bool bq) ∧ w'.cell? ⟨v, 1, none⟩ = some (.slice qo ql qc)), (5, fun w' => w'.cell? ⟨g + 1, 2, none⟩ = some (.bool nb1) ∧ w'.cell? ⟨g + 1, 3, none⟩ = some (.slice bo1 bl1 bc1)), (8, fun w' => w'.cell? ⟨g, 4, none⟩ = some (.bool na2) ∧ w'.cell? ⟨g, 5, none⟩ = some (.slice ao2 al2 ac2)), (9, fun w' => w'.cell? ⟨v, 0, none⟩ = some (.bool bq) ∧ w'.cell? ⟨v, 1, none⟩ = some (.slice qo ql qc)), (11, fun w' => w'.cell? ⟨g + 1, 4, none⟩ = some (.bool nb2) ∧ w'.cell? ⟨g + 1, 5, none⟩ = some (.slice bo2 bl2 bc2))] (by kernel_rfl) ?_
  have hHeld : AllL W3.drew [(0, fun w' => w'.cell? ⟨v + 1, 0, none⟩ = some (.bool br) ∧ w'.cell? ⟨v + 1, 1, none⟩ = some (.slice ro rl rc)), (2, fun w' => w'.cell? ⟨g, 2, none⟩ = some (.bool na1) ∧ w'.cell? ⟨g, 3, none⟩ = some (.slice ao1 al1 ac1)), (3, fun w' => w'.cell? ⟨v, 0, none⟩ = some (.bool bq) ∧ w'.cell? ⟨v, 1, none⟩ = some (.slice qo ql qc)), (5, fun w' => w'.cell? ⟨g + 1, 2, none⟩ = some (.bool nb1) ∧ w'.cell? ⟨g + 1, 3, none⟩ = some (.slice bo1 bl1 bc1)), (8, fun w' => w'.cell? ⟨g, 4, none⟩ = some (.bool na2) ∧ w'.cell? ⟨g, 5, none⟩ = some (.slice ao2 al2 ac2)), (9, fun w' => w'.cell? ⟨v, 0, none⟩ = some (.bool bq) ∧ w'.cell? ⟨v, 1, none⟩ = some (.slice qo ql qc)), (11, fun w' => w'.cell? ⟨g + 1, 4, none⟩ = some (.bool nb2) ∧ w'.cell? ⟨g + 1, 5, none⟩ = some (.slice bo2 bl2 bc2))] := ⟨⟨c0, c1⟩, ⟨a2, a3⟩, ⟨c2, c3⟩, ⟨b2, b3⟩, ⟨a4, a5⟩, ⟨c2, c3⟩, ⟨b4, b5⟩, trivial⟩
  refine late_take 0 (v := .agg #[.bool br, .slice ro rl rc]) rfl (by kernel_rfl) (List.Mem.head _) (by kernel_rfl) (by kernel_rfl) (by kernel_rfl) (by kernel_rfl) (fun _ _ _ h => h) (Or.inl ⟨by rfl, ?_⟩) hHeld ?_
  · (intro u hu; (try dsimp only at hu); go_split_ands; go_simp)
  (try simp only [Act.put, List.setIfInBounds_toArray, List.set_cons_zero, List.set_cons_succ])
  refine late_free 1 (v := .pointer (some ⟨g, 2, none⟩)) rfl (by kernel_rfl) (by kernel_rfl) (by kernel_rfl) (by kernel_rfl) (by kernel_rfl) (by kernel_rfl) (fun _ _ _ h => h) (Or.inl ⟨by rfl, ?_⟩) hHeld ?_
  · (intro u _; go_simp)
  (try simp only [Act.put, List.setIfInBounds_toArray, List.set_cons_zero, List.set_cons_succ])
  refine late_take 2 (v := .agg #[.bool na1, .slice ao1 al1 ac1]) rfl (by kernel_rfl) (List.Mem.tail _ (List.Mem.head _)) (by kernel_rfl) (by kernel_rfl) (by kernel_rfl) (by kernel_rfl) (fun _ _ _ h => h) (Or.inl ⟨by rfl, ?_⟩) hHeld ?_
  · (intro u hu; (try dsimp only at hu); go_split_ands; go_simp)
  (try simp only [Act.put, List.setIfInBounds_toArray, List.set_cons_zero, List.set_cons_succ])
  refine late_take 3 (v := .agg #[.bool bq, .slice qo ql qc]) rfl (by kernel_rfl) (List.Mem.tail _ (List.Mem.tail _ (List.Mem.head _))) (by kernel_rfl) (by kernel_rfl) (by kernel_rfl) (by kernel_rfl) (fun _ _ _ h => h) (Or.inl ⟨by rfl, ?_⟩) hHeld ?_
  · (intro u hu; (try dsimp only at hu); go_split_ands; go_simp)
  (try simp only [Act.put, List.setIfInBounds_toArray, List.set_cons_zero, List.set_cons_succ])
  refine late_free 4 (v := .pointer (some ⟨g + 1, 2, none⟩)) rfl (by kernel_rfl) (by kernel_rfl) (by kernel_rfl) (by kernel_rfl) (by kernel_rfl) (by kernel_rfl) (fun _ _ _ h => h) (Or.inl ⟨by rfl, ?_⟩) hHeld ?_
  · (intro u _; go_simp)
  (try simp only [Act.put, List.setIfInBounds_toArray, List.set_cons_zero, List.set_cons_succ])
  refine late_take 5 (v := .agg #[.bool nb1, .slice bo1 bl1 bc1]) rfl (by kernel_rfl) (List.Mem.tail _ (List.Mem.tail _ (List.Mem.tail _ (List.Mem.head _)))) (by kernel_rfl) (by kernel_rfl) (by kernel_rfl) (by kernel_rfl) (fun _ _ _ h => h) (Or.inl ⟨by rfl, ?_⟩) hHeld ?_
  · (intro u hu; (try dsimp only at hu); go_split_ands; go_simp)
  (try simp only [Act.put, List.setIfInBounds_toArray, List.set_cons_zero, List.set_cons_succ])
  refine late_free 7 (v := .pointer (some ⟨g, 4, none⟩)) rfl (by kernel_rfl) (by kernel_rfl) (by kernel_rfl) (by kernel_rfl) (by kernel_rfl) (by kernel_rfl) (fun _ _ _ h => h) (Or.inl ⟨by rfl, ?_⟩) hHeld ?_
  · (intro u _; go_simp)
  (try simp only [Act.put, List.setIfInBounds_toArray, List.set_cons_zero, List.set_cons_succ])
  refine late_take 8 (v := .agg #[.bool na2, .slice ao2 al2 ac2]) rfl (by kernel_rfl) (List.Mem.tail _ (List.Mem.tail _ (List.Mem.tail _ (List.Mem.tail _ (List.Mem.head _))))) (by kernel_rfl) (by kernel_rfl) (by kernel_rfl) (by kernel_rfl) (fun _ _ _ h => h) (Or.inl ⟨by rfl, ?_⟩) hHeld ?_
  · (intro u hu; (try dsimp only at hu); go_split_ands; go_simp)
  (try simp only [Act.put, List.setIfInBounds_toArray, List.set_cons_zero, List.set_cons_succ])
  refine late_take 9 (v := .agg #[.bool bq, .slice qo ql qc]) rfl (by kernel_rfl) (List.Mem.tail _ (List.Mem.tail _ (List.Mem.tail _ (List.Mem.tail _ (List.Mem.tail _ (List.Mem.head _)))))) (by kernel_rfl) (by kernel_rfl) (by kernel_rfl) (by kernel_rfl) (fun _ _ _ h => h) (Or.inl ⟨by rfl, ?_⟩) hHeld ?_
  · (intro u hu; (try dsimp only at hu); go_split_ands; go_simp)
  (try simp only [Act.put, List.setIfInBounds_toArray, List.set_cons_zero, List.set_cons_succ])
  refine late_free 10 (v := .pointer (some ⟨g + 1, 4, none⟩)) rfl (by kernel_rfl) (by kernel_rfl) (by kernel_rfl) (by kernel_rfl) (by kernel_rfl) (by kernel_rfl) (fun _ _ _ h => h) (Or.inl ⟨by rfl, ?_⟩) hHeld ?_
  · (intro u _; go_simp)
  (try simp only [Act.put, List.setIfInBounds_toArray, List.set_cons_zero, List.set_cons_succ])
  refine late_take 11 (v := .agg #[.bool nb2, .slice bo2 bl2 bc2]) rfl (by kernel_rfl) (List.Mem.tail _ (List.Mem.tail _ (List.Mem.tail _ (List.Mem.tail _ (List.Mem.tail _ (List.Mem.tail _ (List.Mem.head _))))))) (by kernel_rfl) (by kernel_rfl) (by kernel_rfl) (by kernel_rfl) (fun _ _ _ h => h) (Or.inl ⟨by rfl, ?_⟩) hHeld ?_
  · (intro u hu; (try dsimp only at hu); go_split_ands; go_simp)
  (try simp only [Act.put, List.setIfInBounds_toArray, List.set_cons_zero, List.set_cons_succ])
  refine late_step 6 (by kernel_rfl) rfl (fun K hK => ?_)
  go_simp
  refine (c_less HIA.out.1 HIS.out.1 HIA.out.2.2.1 zs hL).mono ?_
  rw [HX.out]
  rintro e w4 ⟨v4, rfl, hv4, hb4⟩
  have aX := hv4.away (g := g + 1 + 1) hsz3 zs2 hL
  obtain ⟨m4, rfl, hm4⟩ := hv4
  obtain ⟨xo, xl, xc, rfl⟩ := hm4.sl
  clear hm4
  go_wp2_with fail
  refine hK.out _ _ (AllL.kept ⟨⟨keepB (bstep (below_drew' _) hb4) c0, keepB (bstep (below_drew' _) hb4) c1⟩, ⟨keepB (bstep (below_drew' _) hb4) a2, keepB (bstep (below_drew' _) hb4) a3⟩, ⟨keepB (bstep (below_drew' _) hb4) c2, keepB (bstep (below_drew' _) hb4) c3⟩, ⟨keepB (bstep (below_drew' _) hb4) b2, keepB (bstep (below_drew' _) hb4) b3⟩, ⟨keepB (bstep (below_drew' _) hb4) a4, keepB (bstep (below_drew' _) hb4) a5⟩, ⟨keepB (bstep (below_drew' _) hb4) c2, keepB (bstep (below_drew' _) hb4) c3⟩, ⟨keepB (bstep (below_drew' _) hb4) b4, keepB (bstep (below_drew' _) hb4) b5⟩, trivial⟩) ?_
  clear hK K
  (try simp only [Act.put, List.setIfInBounds_toArray, List.set_cons_zero, List.set_cons_succ])
  refine late_step 12 (by kernel_rfl) rfl (fun K hK => ?_)
  go_simp
  refine (c_less (HIA.out.2.1.below hb4) (HIS.out.1.below hb4) (HIA.out.2.2.2.below hb4) zt hL).mono ?_
  rw [HY.out]
  rintro e w5 ⟨v5, rfl, hv5, hb5⟩
  have aY := hv5.away (g := g + 1 + 1) (Nat.lt_of_lt_of_le hsz3 hb4.size) zt2 hL
  obtain ⟨m5, rfl, hm5⟩ := hv5
  obtain ⟨yo, yl, yc, rfl⟩ := hm5.sl
  clear hm5
  have q2 := (HQ2.out.below hb4).below hb5
  obtain ⟨e0, e1, e2, e3, e4, e5⟩ := q2.cells
  have f0 := q2.thaw 0
  have f1 := q2.thaw 1
  have f2 := q2.thaw 2
  have f3 := q2.thaw 3
  have f4 := q2.thaw 4
  have f5 := q2.thaw 5
  go_wp2_with fail
  refine hK.out _ _ (AllL.kept ⟨⟨keepB (bstep (below_drew' _) (bstep hb4 hb5)) c0, keepB (bstep (below_drew' _) (bstep hb4 hb5)) c1⟩, ⟨keepB (bstep (below_drew' _) (bstep hb4 hb5)) a2, keepB (bstep (below_drew' _) (bstep hb4 hb5)) a3⟩, ⟨keepB (bstep (below_drew' _) (bstep hb4 hb5)) c2, keepB (bstep (below_drew' _) (bstep hb4 hb5)) c3⟩, ⟨keepB (bstep (below_drew' _) (bstep hb4 hb5)) b2, keepB (bstep (below_drew' _) (bstep hb4 hb5)) b3⟩, ⟨keepB (bstep (below_drew' _) (bstep hb4 hb5)) a4, keepB (bstep (below_drew' _) (bstep hb4 hb5)) a5⟩, ⟨keepB (bstep (below_drew' _) (bstep hb4 hb5)) c2, keepB (bstep (below_drew' _) (bstep hb4 hb5)) c3⟩, ⟨keepB (bstep (below_drew' _) (bstep hb4 hb5)) b4, keepB (bstep (below_drew' _) (bstep hb4 hb5)) b5⟩, trivial⟩) ?_
  clear hK K
  (try simp only [Act.put, List.setIfInBounds_toArray, List.set_cons_zero, List.set_cons_succ])
  refine late_step 13 (by kernel_rfl) rfl (fun K hK => ?_)
  go_simp
  refine hK.out _ _ ⟨Or.inl ⟨13, by kernel_rfl, by kernel_rfl⟩, Or.inl ⟨6, by kernel_rfl, by kernel_rfl⟩, Or.inl ⟨6, by kernel_rfl, by kernel_rfl⟩, Or.inl ⟨6, by kernel_rfl, by kernel_rfl⟩, Or.inl ⟨12, by kernel_rfl, by kernel_rfl⟩, Or.inl ⟨12, by kernel_rfl, by kernel_rfl⟩, Or.inl ⟨12, by kernel_rfl, by kernel_rfl⟩, trivial⟩ ?_
  clear hK K
  (try simp only [Act.put, List.setIfInBounds_toArray, List.set_cons_zero, List.set_cons_succ])
  refine late_step 14 (by kernel_rfl) rfl (fun K hK => ?_)
  go_simp
  refine hK.out _ _ ⟨Or.inl ⟨13, by kernel_rfl, by kernel_rfl⟩, Or.inl ⟨6, by kernel_rfl, by kernel_rfl⟩, Or.inl ⟨6, by kernel_rfl, by kernel_rfl⟩, Or.inl ⟨6, by kernel_rfl, by kernel_rfl⟩, Or.inl ⟨12, by kernel_rfl, by kernel_rfl⟩, Or.inl ⟨12, by kernel_rfl, by kernel_rfl⟩, Or.inl ⟨12, by kernel_rfl, by kernel_rfl⟩, trivial⟩ ?_
  clear hK K
  (try simp only [Act.put, List.setIfInBounds_toArray, List.set_cons_zero, List.set_cons_succ])
  refine late_done (by kernel_rfl) ?_ _
  have aR := (HIS.out.2.below hb4).below hb5
  replace aX := aX.below hb5
  have HEE : Hid (StepEnd w G R X Y (.returned (.agg #[.bool br, .slice ro rl rc, .bool (decide (X < 0)), .slice xo xl xc, .bool (decide (Y < 0)), .slice yo yl yc])) ((((((w5.setCell ⟨g + 1 + 1, 0, none⟩ (.bool br)).setCell ⟨g + 1 + 1, 1, none⟩ (.slice ro rl rc)).setCell ⟨g + 1 + 1, 2, none⟩ (.bool (decide (X < 0)))).setCell ⟨g + 1 + 1, 3, none⟩ (.slice xo xl xc)).setCell ⟨g + 1 + 1, 4, none⟩ (.bool (decide (Y < 0)))).setCell ⟨g + 1 + 1, 5, none⟩ (.slice yo yl yc))) := ⟨_, _, _, _, _, _, rfl, ⟨(aR.set6 (Nat.le_refl _)).mono (by rw [HG.out]; omega), (aX.set6 (Nat.le_refl _)).mono (by rw [HG.out]; omega), (aY.set6 (Nat.le_refl _)).mono (by rw [HG.out]; omega)⟩, row_below (bstep (bstep (bstep hb (below_drew' _)) hb4) hb5) (by rw [HG.out]; omega)⟩
  have HW : Hid (RCell _ (g + 1 + 1) br (.slice ro rl rc) (decide (X < 0)) (.slice xo xl xc) (decide (Y < 0)) (.slice yo yl yc)) := q2.write _ _ _ _ _ _
  clear aR aX aY hb4 hb5 hb q2 e0 e1 e2 e3 e4 e5 f0 f1 f2 f3 f4 f5 c0 c1 c2 c3 a2 a3 a4 a5 b2 b3 b4 b5
  go_wp2_with fail
  (try simp only [Exit.inBlock, Exit.then])
  exact bodyPost_ret (results_cell_row rfl _ _ (g + 1 + 1) 56 _ (0, 0) _ rfl HW.out Tryd.underlying56 rfl (by kernel_rfl)) rfl HEE.out
end Go.Proofs.YtmcnpiajnehnlabDoor
