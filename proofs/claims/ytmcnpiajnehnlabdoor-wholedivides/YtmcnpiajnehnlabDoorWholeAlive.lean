/-
  Proved here: alive of credencelaw02 answers yes.
-/
import Derived.Test.YtmcnpiajnehnlabDoorWholeP
namespace Go.Proofs.YtmcnpiajnehnlabDoor
open Go.RowKit

theorem IOwn.see {B : Nat} {w : World} {v : Value} {z : Int} (h : IOwn B w v z) {L : Nat} (hs : Sz z L) (hL : L ≤ 1000000) : ∃ n o l c, v = .agg #[.bool n, .slice o l c] ∧ INum w (.agg #[.bool n, .slice o l c]) z := by
  have hi := h.num hs hL
  obtain ⟨m, rfl, ho⟩ := h
  obtain ⟨o, l, c, rfl⟩ := ho.sl
  exact ⟨_, o, l, c, rfl, hi⟩
theorem INum.see {w : World} {v : Value} {z : Int} (h : INum w v z) : ∃ n o l c, v = .agg #[.bool n, .slice o l c] ∧ INum w (.agg #[.bool n, .slice o l c]) z := by
  obtain ⟨n, o, l, c, xs, rfl, h1, h2, h3⟩ := h
  exact ⟨n, o, l, c, rfl, n, o, l, c, xs, rfl, h1, h2, h3⟩
theorem Own.see {B : Nat} {w : World} {m : Value} {z : Int} (h : Own B 68 w m (lim z.natAbs)) {L : Nat} (hs : Sz z L) (hL : L ≤ 1000000) : ∃ n o l c, n = decide (z < 0) ∧ m = .slice o l c ∧ INum w (.agg #[.bool n, .slice o l c]) z := by
  obtain ⟨o, l, c, rfl⟩ := h.sl
  exact ⟨_, o, l, c, rfl, rfl, IOwn.num ⟨_, rfl, h⟩ hs hL⟩
/-- How a whole number is written. -/
def zt (z : Int) : ByteArray := ztxt (decide (z < 0)) z.natAbs
theorem zt_zv (neg : Bool) (n : Nat) : ztxt neg n = zt (zv neg n) := by
  unfold zt ztxt
  rw [zv_abs]
  by_cases h : neg = true ∧ n ≠ 0
  · rw [if_pos h, if_pos ⟨decide_eq_true (by rw [h.1]; unfold zv; simp; omega), h.2⟩]
  · rw [if_neg h, if_neg]
    intro h2
    apply h
    refine ⟨?_, h2.2⟩
    have := of_decide_eq_true h2.1
    cases neg
    · simp [zv] at this; omega
    · rfl
theorem c_text {a : Value} {x : Int} {w : World} (ha : INum w a x) : Calls Tryd.prog 21 #[a] w fun e w' => e = .returned (.string (zt x)) ∧ Below w.heap.size w w' := by
  obtain ⟨na, ao, al, ac, xs, rfl, h1, h2, rfl⟩ := ha
  rw [← zt_zv]
  exact wtext_any _ _ _ _ _ _ h1 h2
theorem Sz.of {z : Int} (h : z.natAbs < 4294967296 ^ 8) : Sz z 8 := ⟨h⟩
/-- The rows of 240 and 46. -/
def IA (r0 s0 t0 r1 s1 t1 : Int) : Prop := (r0 = 240 ∧ s0 = 1 ∧ t0 = 0 ∧ r1 = 46 ∧ s1 = 0 ∧ t1 = 1) ∨ (r0 = 46 ∧ s0 = 0 ∧ t0 = 1 ∧ r1 = 10 ∧ s1 = 1 ∧ t1 = -5) ∨ (r0 = 10 ∧ s0 = 1 ∧ t0 = -5 ∧ r1 = 6 ∧ s1 = -4 ∧ t1 = 21) ∨ (r0 = 6 ∧ s0 = -4 ∧ t0 = 21 ∧ r1 = 4 ∧ s1 = 5 ∧ t1 = -26) ∨ (r0 = 4 ∧ s0 = 5 ∧ t0 = -26 ∧ r1 = 2 ∧ s1 = -9 ∧ t1 = 47) ∨ (r0 = 2 ∧ s0 = -9 ∧ t0 = 47 ∧ r1 = 0 ∧ s1 = 23 ∧ t1 = -120)
theorem IA_step (r0 s0 t0 r1 s1 t1 : Int) (h : IA r0 s0 t0 r1 s1 t1) (hr : r1 ≠ 0) : IA r1 s1 t1 (rz r0 r1) (s0 - r0.tdiv r1 * s1) (t0 - r0.tdiv r1 * t1) := by
  rcases h with ⟨rfl, rfl, rfl, rfl, rfl, rfl⟩ | ⟨rfl, rfl, rfl, rfl, rfl, rfl⟩ | ⟨rfl, rfl, rfl, rfl, rfl, rfl⟩ | ⟨rfl, rfl, rfl, rfl, rfl, rfl⟩ | ⟨rfl, rfl, rfl, rfl, rfl, rfl⟩ | ⟨rfl, rfl, rfl, rfl, rfl, rfl⟩
  · exact Or.inr (Or.inl (by decide))
  · exact Or.inr (Or.inr (Or.inl (by decide)))
  · exact Or.inr (Or.inr (Or.inr (Or.inl (by decide))))
  · exact Or.inr (Or.inr (Or.inr (Or.inr (Or.inl (by decide)))))
  · exact Or.inr (Or.inr (Or.inr (Or.inr (Or.inr (by decide)))))
  · exact absurd rfl hr
theorem small_sz {z : Int} (h : z.natAbs < 4294967296) : Sz z 400000 := Sz.mono (L := 1) ⟨by rw [Nat.pow_one]; exact h⟩ (by decide)
theorem IA_sz (r0 s0 t0 r1 s1 t1 : Int) (h : IA r0 s0 t0 r1 s1 t1) : Sz r0 400000 ∧ Sz s0 400000 ∧ Sz t0 400000 ∧ Sz r1 400000 ∧ Sz s1 400000 ∧ Sz t1 400000 := by
  rcases h with ⟨rfl, rfl, rfl, rfl, rfl, rfl⟩ | ⟨rfl, rfl, rfl, rfl, rfl, rfl⟩ | ⟨rfl, rfl, rfl, rfl, rfl, rfl⟩ | ⟨rfl, rfl, rfl, rfl, rfl, rfl⟩ | ⟨rfl, rfl, rfl, rfl, rfl, rfl⟩ | ⟨rfl, rfl, rfl, rfl, rfl, rfl⟩ <;>
    exact ⟨small_sz (by decide), small_sz (by decide), small_sz (by decide), small_sz (by decide), small_sz (by decide), small_sz (by decide)⟩
theorem bz_240 : bz 240 1 0 46 0 1 = (2, -9, 47) := by
  rw [bz_go (by decide), show rz 240 46 = 10 by decide, show (1 - Int.tdiv 240 46 * 0 : Int) = 1 by decide, show (0 - Int.tdiv 240 46 * 1 : Int) = -5 by decide,
    bz_go (by decide), show rz 46 10 = 6 by decide, show (0 - Int.tdiv 46 10 * 1 : Int) = -4 by decide, show (1 - Int.tdiv 46 10 * -5 : Int) = 21 by decide,
    bz_go (by decide), show rz 10 6 = 4 by decide, show (1 - Int.tdiv 10 6 * -4 : Int) = 5 by decide, show (-5 - Int.tdiv 10 6 * 21 : Int) = -26 by decide,
    bz_go (by decide), show rz 6 4 = 2 by decide, show (-4 - Int.tdiv 6 4 * 5 : Int) = -9 by decide, show (21 - Int.tdiv 6 4 * -26 : Int) = 47 by decide,
    bz_go (by decide), show rz 4 2 = 0 by decide, bz_stop rfl]
theorem big_dig : DigOk (tail ⟨#[45, 49, 48, 48, 48, 48, 48, 48, 48, 48, 48, 48, 48, 48, 48, 48, 48, 48, 48, 48, 48, 48]⟩) ∧ 0 < (tail ⟨#[45, 49, 48, 48, 48, 48, 48, 48, 48, 48, 48, 48, 48, 48, 48, 48, 48, 48, 48, 48, 48, 48]⟩).size := by
  rw [show tail ⟨#[45, 49, 48, 48, 48, 48, 48, 48, 48, 48, 48, 48, 48, 48, 48, 48, 48, 48, 48, 48, 48, 48]⟩ = ⟨#[49, 48, 48, 48, 48, 48, 48, 48, 48, 48, 48, 48, 48, 48, 48, 48, 48, 48, 48, 48, 48]⟩ by kernel_rfl]
  decide
theorem big_val : zv (strk ⟨#[45, 49, 48, 48, 48, 48, 48, 48, 48, 48, 48, 48, 48, 48, 48, 48, 48, 48, 48, 48, 48, 48]⟩) (bval (dgs (tail ⟨#[45, 49, 48, 48, 48, 48, 48, 48, 48, 48, 48, 48, 48, 48, 48, 48, 48, 48, 48, 48, 48, 48]⟩))) = -100000000000000000000 := by kernel_rfl

set_option maxRecDepth 100000 in
set_option maxHeartbeats 12800000 in
theorem walive_yes (w : World) : Calls Tryd.prog 8 #[] w fun e w' => e = .returned (.bool true) ∧ Below w.heap.size w w' := by
  have hb : Below w.heap.size w w := Below.refl _ _
  go_enter Tryd.func8, Tryd.ntmps8
  go_wp2_with fail
  refine (c_of (n := -7) (by decide) (by decide)).mono ?_
  rintro e w2 ⟨v, rfl, hv, b⟩
  obtain ⟨an, ao, al, ac, rfl, ia⟩ := hv.see (Sz.of (z := -7) (by decide)) (by decide)
  clear hv
  replace hb := bstep hb b
  clear b
  go_wp2_with fail
  refine (c_of (n := 2) (by decide) (by decide)).mono ?_
  rintro e w3 ⟨v, rfl, hv, b⟩
  obtain ⟨cn, co, cl, cc, rfl, ic⟩ := hv.see (Sz.of (z := 2) (by decide)) (by decide)
  clear hv
  replace ia := ia.below b
  replace hb := bstep hb b
  clear b
  go_wp2_with fail
  have hf := c_floor ia ic
  rw [show fq (-7) 2 = -4 by decide, show fr (-7) 2 = 1 by decide, show errZ (Int.natAbs 2) = 0 from rfl] at hf
  refine hf.mono ?_
  rintro e w4 ⟨mq, mr, rfl, hq, hr, _, b⟩
  clear hf ia ic
  obtain ⟨qn, qo, ql, qc, hqn, rfl, iq⟩ := hq.see (Sz.of (z := -4) (by decide)) (by decide)
  obtain ⟨rn, ro, rl, rc, hrn, rfl, ir⟩ := hr.see (Sz.of (z := 1) (by decide)) (by decide)
  rw [← hqn, ← hrn]
  clear hq hr hqn hrn
  replace hb := bstep hb b
  clear b
  obtain ⟨W5, hW5⟩ : ∃ W, W = (w4.alloc (.cells #[.bool qn, .slice qo ql qc] 25)).alloc (.cells #[.bool rn, .slice ro rl rc] 25) := ⟨_, rfl⟩
  have p1 : ICell W5 w4.heap.size qn (.slice qo ql qc) := by rw [hW5]; exact icell_step (icell_new _ rfl)
  have p2 : ICell W5 (w4.heap.size + 1) rn (.slice ro rl rc) := by rw [hW5]; exact icell_new _ (by simp)
  have b : Below w4.heap.size w4 W5 := by rw [hW5]; exact bstep (belowA _ _) (belowA _ _)
  replace iq := iq.below b
  replace ir := ir.below b
  replace hb := bstep hb b
  clear b
  obtain ⟨v1, hv1⟩ : ∃ v, v = w4.heap.size := ⟨_, rfl⟩
  rw [← hv1] at p1 p2
  have HW5 : Hid (W5 = (w4.alloc (.cells #[.bool qn, .slice qo ql qc] 25)).alloc (.cells #[.bool rn, .slice ro rl rc] 25)) := hW5
  have Hv1 : Hid (v1 = w4.heap.size) := hv1
  clear hW5 hv1
  go_wp2_with fail
  rw [← HW5.out, ← Hv1.out]
  clear HW5 Hv1
  refine (c_of (n := 240) (by decide) (by decide)).mono ?_
  rintro e w6 ⟨v, rfl, hv, b⟩
  obtain ⟨an, ao, al, ac, rfl, ia⟩ := hv.see (Sz.of (z := 240) (by decide)) (by decide)
  clear hv
  replace iq := iq.below b
  replace ir := ir.below b
  replace p1 := p1.below b
  replace p2 := p2.below b
  replace hb := bstep hb b
  clear b
  go_wp2_with fail
  refine (c_of (n := -46) (by decide) (by decide)).mono ?_
  rintro e w7 ⟨v, rfl, hv, b⟩
  obtain ⟨cn, co, cl, cc, rfl, ic⟩ := hv.see (Sz.of (z := -46) (by decide)) (by decide)
  clear hv
  replace iq := iq.below b
  replace ir := ir.below b
  replace ia := ia.below b
  replace p1 := p1.below b
  replace p2 := p2.below b
  replace hb := bstep hb b
  clear b
  go_wp2_with fail
  have hf := c_bezout ia ic IA (Or.inl (by decide)) IA_step IA_sz
  rw [show ((Int.natAbs 240 : Nat) : Int) = 240 from rfl, show ((Int.natAbs (-46) : Nat) : Int) = 46 from rfl, bz_240] at hf
  refine hf.mono ?_
  rintro e w8 ⟨mg, vx, vy, gs, rfl, ng, lg, vg, kx, ky, b⟩
  clear hf ia ic
  obtain ⟨xn, xo, xl, xc, rfl, jx⟩ := kx.see
  obtain ⟨yn, yo, yl, yc, rfl, jy⟩ := ky.see
  have ix : INum w8 (.agg #[.bool xn, .slice xo xl xc]) (-9) := jx
  have iy : INum w8 (.agg #[.bool yn, .slice yo yl yc]) (-47) := jy
  clear jx jy kx ky
  replace vg : val gs = 2 := vg
  replace iq := iq.below b
  replace ir := ir.below b
  replace p1 := p1.below b
  replace p2 := p2.below b
  replace hb := bstep hb b
  clear b
  obtain ⟨W9, hW9⟩ : ∃ W, W = (w8.alloc (.cells #[.bool xn, .slice xo xl xc] 25)).alloc (.cells #[.bool yn, .slice yo yl yc] 25) := ⟨_, rfl⟩
  have p3 : ICell W9 w8.heap.size xn (.slice xo xl xc) := by rw [hW9]; exact icell_step (icell_new _ rfl)
  have p4 : ICell W9 (w8.heap.size + 1) yn (.slice yo yl yc) := by rw [hW9]; exact icell_new _ (by simp)
  have b : Below w8.heap.size w8 W9 := by rw [hW9]; exact bstep (belowA _ _) (belowA _ _)
  replace iq := iq.below b
  replace ir := ir.below b
  replace ix := ix.below b
  replace iy := iy.below b
  replace p1 := p1.below b
  replace p2 := p2.below b
  replace ng := ng.below (Nat.le_refl _) b
  replace hb := bstep hb b
  clear b
  obtain ⟨v3, hv3⟩ : ∃ v, v = w8.heap.size := ⟨_, rfl⟩
  rw [← hv3] at p3 p4
  have HW9 : Hid (W9 = (w8.alloc (.cells #[.bool xn, .slice xo xl xc] 25)).alloc (.cells #[.bool yn, .slice yo yl yc] 25)) := hW9
  have Hv3 : Hid (v3 = w8.heap.size) := hv3
  clear hW9 hv3
  go_wp2_with fail
  rw [← HW9.out, ← Hv3.out]
  clear HW9 Hv3
  have hp := c_parse ⟨#[45, 49, 48, 48, 48, 48, 48, 48, 48, 48, 48, 48, 48, 48, 48, 48, 48, 48, 48, 48, 48, 48]⟩ W9 (by decide)
  simp only [big_dig, and_self, if_true, big_val] at hp
  refine hp.mono ?_
  rintro e w10 ⟨v, rfl, hv, b⟩
  clear hp
  obtain ⟨gn, go, gl, gc, rfl, ig⟩ := hv.see (Sz.of (z := (-100000000000000000000)) (by decide)) (by decide)
  clear hv
  replace iq := iq.below b
  replace ir := ir.below b
  replace ix := ix.below b
  replace iy := iy.below b
  replace p1 := p1.below b
  replace p2 := p2.below b
  replace ng := ng.below (Nat.le_refl _) b
  replace p3 := p3.below b
  replace p4 := p4.below b
  replace hb := bstep hb b
  clear b
  obtain ⟨W11, hW11⟩ : ∃ W, W = w10.alloc (.cells #[.bool gn, .slice go gl gc] 25) := ⟨_, rfl⟩
  have p5 : ICell W11 w10.heap.size gn (.slice go gl gc) := by rw [hW11]; exact icell_new _ rfl
  have b : Below w10.heap.size w10 W11 := by rw [hW11]; exact belowA _ _
  replace iq := iq.below b
  replace ir := ir.below b
  replace ix := ix.below b
  replace iy := iy.below b
  replace ig := ig.below b
  replace p1 := p1.below b
  replace p2 := p2.below b
  replace ng := ng.below (Nat.le_refl _) b
  replace p3 := p3.below b
  replace p4 := p4.below b
  replace hb := bstep hb b
  clear b
  obtain ⟨v5, hv5⟩ : ∃ v, v = w10.heap.size := ⟨_, rfl⟩
  rw [← hv5] at p5
  have HW11 : Hid (W11 = w10.alloc (.cells #[.bool gn, .slice go gl gc] 25)) := hW11
  have Hv5 : Hid (v5 = w10.heap.size) := hv5
  have e0 : (w10.alloc (.cells #[.bool gn, .slice go gl gc] 25)).cell? ⟨v1, 0, none⟩ = some (.bool qn) := by rw [← hW11]; exact p1.cells.1
  have e1 : (w10.alloc (.cells #[.bool gn, .slice go gl gc] 25)).cell? ⟨v1, 1, none⟩ = some (.slice qo ql qc) := by rw [← hW11]; exact p1.cells.2
  clear hW11 hv5
  go_wp2_with fail
  rw [← HW11.out, ← Hv5.out]
  clear HW11 Hv5 e0 e1
  refine (c_text iq).mono ?_
  rw [show zt (-4) = ⟨#[45, 52]⟩ by kernel_rfl]
  rintro e w12 ⟨rfl, b⟩
  replace iq := iq.below b
  replace ir := ir.below b
  replace ix := ix.below b
  replace iy := iy.below b
  replace ig := ig.below b
  replace p1 := p1.below b
  replace p2 := p2.below b
  replace ng := ng.below (Nat.le_refl _) b
  replace p3 := p3.below b
  replace p4 := p4.below b
  replace p5 := p5.below b
  replace hb := bstep hb b
  clear b
  obtain ⟨p2c, p2d⟩ := p2.cells
  go_wp2_with fail
  clear p2c p2d
  refine (c_text ir).mono ?_
  rw [show zt (1) = ⟨#[49]⟩ by kernel_rfl]
  rintro e w13 ⟨rfl, b⟩
  replace iq := iq.below b
  replace ir := ir.below b
  replace ix := ix.below b
  replace iy := iy.below b
  replace ig := ig.below b
  replace p1 := p1.below b
  replace p2 := p2.below b
  replace ng := ng.below (Nat.le_refl _) b
  replace p3 := p3.below b
  replace p4 := p4.below b
  replace p5 := p5.below b
  replace hb := bstep hb b
  clear b
  go_wp2_with fail
  refine (text_any _ _ _ ng lg).mono ?_
  rw [vg, show txt 2 = ⟨#[50]⟩ by kernel_rfl]
  rintro e w14 ⟨rfl, b⟩
  replace iq := iq.below b
  replace ir := ir.below b
  replace ix := ix.below b
  replace iy := iy.below b
  replace ig := ig.below b
  replace p1 := p1.below b
  replace p2 := p2.below b
  replace ng := ng.below (Nat.le_refl _) b
  replace p3 := p3.below b
  replace p4 := p4.below b
  replace p5 := p5.below b
  replace hb := bstep hb b
  clear b
  obtain ⟨p3c, p3d⟩ := p3.cells
  go_wp2_with fail
  clear p3c p3d
  refine (c_text ix).mono ?_
  rw [show zt (-9) = ⟨#[45, 57]⟩ by kernel_rfl]
  rintro e w15 ⟨rfl, b⟩
  replace iq := iq.below b
  replace ir := ir.below b
  replace ix := ix.below b
  replace iy := iy.below b
  replace ig := ig.below b
  replace p1 := p1.below b
  replace p2 := p2.below b
  replace ng := ng.below (Nat.le_refl _) b
  replace p3 := p3.below b
  replace p4 := p4.below b
  replace p5 := p5.below b
  replace hb := bstep hb b
  clear b
  obtain ⟨p4c, p4d⟩ := p4.cells
  go_wp2_with fail
  clear p4c p4d
  refine (c_text iy).mono ?_
  rw [show zt (-47) = ⟨#[45, 52, 55]⟩ by kernel_rfl]
  rintro e w16 ⟨rfl, b⟩
  replace iq := iq.below b
  replace ir := ir.below b
  replace ix := ix.below b
  replace iy := iy.below b
  replace ig := ig.below b
  replace p1 := p1.below b
  replace p2 := p2.below b
  replace ng := ng.below (Nat.le_refl _) b
  replace p3 := p3.below b
  replace p4 := p4.below b
  replace p5 := p5.below b
  replace hb := bstep hb b
  clear b
  obtain ⟨p5c, p5d⟩ := p5.cells
  go_wp2_with fail
  clear p5c p5d
  have hm := c_mul ig ig
  rw [show (-100000000000000000000 * -100000000000000000000 : Int) = 10000000000000000000000000000000000000000 by decide] at hm
  refine hm.mono ?_
  rintro e w17 ⟨v, rfl, hv, b⟩
  clear hm
  obtain ⟨kn, ko, kl, kc, rfl, ik⟩ := hv.see (Sz.of (z := 10000000000000000000000000000000000000000) (by decide)) (by decide)
  clear hv
  replace iq := iq.below b
  replace ir := ir.below b
  replace ix := ix.below b
  replace iy := iy.below b
  replace ig := ig.below b
  replace p1 := p1.below b
  replace p2 := p2.below b
  replace ng := ng.below (Nat.le_refl _) b
  replace p3 := p3.below b
  replace p4 := p4.below b
  replace p5 := p5.below b
  replace hb := bstep hb b
  clear b
  go_wp2_with fail
  refine (c_text ik).mono ?_
  rw [show zt 10000000000000000000000000000000000000000 = ⟨#[49, 48, 48, 48, 48, 48, 48, 48, 48, 48, 48, 48, 48, 48, 48, 48, 48, 48, 48, 48, 48, 48, 48, 48, 48, 48, 48, 48, 48, 48, 48, 48, 48, 48, 48, 48, 48, 48, 48, 48, 48]⟩ by kernel_rfl]
  rintro e w18 ⟨rfl, b⟩
  have HE : Hid (Below w.heap.size w w18) := bstep hb b
  clear hb b ik ig iq ir ix iy ng p1 p2 p3 p4 p5
  go_wp2_with fail
  go_ret
  exact ⟨rfl, HE.out⟩
end Go.Proofs.YtmcnpiajnehnlabDoor
