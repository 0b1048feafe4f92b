/-
  Proved here: WholeDivides of any two numbers returns true, and writes nothing that was there.
-/
import Derived.Test.YtmcnpiajnehnlabDoorWholeX3
namespace Go.Proofs.YtmcnpiajnehnlabDoor
open Go.RowKit
attribute [local go_sem ↓] Go.wp_at_zero Go.wp_at_succ

theorem Own.see2 {B : Nat} {w : World} {m : Value} {z : Int} (h : Own B 68 w m (lim z.natAbs)) {L : Nat} (hs : Sz z L) (hL : L ≤ 1000000) : ∃ n o l c, n = decide (z < 0) ∧ m = .slice o l c ∧ l = (lim z.natAbs).length ∧ INum w (.agg #[.bool n, .slice o l c]) z := by
  have hi := IOwn.num ⟨_, rfl, h⟩ hs hL
  obtain ⟨ao, cap, e, _⟩ := h.num.ao
  subst e
  exact ⟨_, ao, _, cap, rfl, rfl, rfl, hi⟩
theorem div_back {x y : Int} (h : y ≠ 0) : x.tdiv y * y + rz x y = x := by
  unfold rz; rw [if_neg h, Int.mul_comm]; exact Int.mul_tdiv_add_tmod x y
theorem fdiv_back {x y : Int} (h : y ≠ 0) : fq x y * y + fr x y = x := by
  have h1 := div_back (x := x) h
  unfold fq fr
  by_cases hf : fup x y
  · rw [if_pos hf, if_pos hf, Int.sub_mul, Int.one_mul]; omega
  · rw [if_neg hf, if_neg hf]; exact h1
theorem rz_side {x y : Int} (h : y ≠ 0) : (0 ≤ x → 0 ≤ rz x y) ∧ (x ≤ 0 → rz x y ≤ 0) := by
  unfold rz
  rw [if_neg h]
  refine ⟨fun hx => Int.tmod_nonneg y hx, fun hx => ?_⟩
  have := Int.tmod_nonneg y (show 0 ≤ -x by omega)
  rw [Int.neg_tmod] at this
  omega
theorem cmp_cases (z : Int) : (z < 0 ∧ cmpZ z 0 = -1) ∨ (z = 0 ∧ cmpZ z 0 = 0) ∨ (0 < z ∧ cmpZ z 0 = 1) := by
  rcases Int.lt_trichotomy z 0 with h | h | h
  · exact Or.inl ⟨h, cmpZ_lt h⟩
  · exact Or.inr (Or.inl ⟨h, by rw [h]; exact cmpZ_same 0⟩)
  · exact Or.inr (Or.inr ⟨h, cmpZ_gt h⟩)
theorem fup_iff (x y : Int) : fup x y ↔ (rz x y < 0 ∧ 0 < y) ∨ (0 < rz x y ∧ y < 0) := by
  unfold fup
  rcases cmp_cases (rz x y) with ⟨a, e⟩ | ⟨a, e⟩ | ⟨a, e⟩ <;> rcases cmp_cases y with ⟨b, e2⟩ | ⟨b, e2⟩ | ⟨b, e2⟩ <;> rw [e, e2] <;> omega
theorem fr_lt {x y : Int} (h : y ≠ 0) : (fr x y).natAbs < y.natAbs := by
  have h1 := rz_lt (x := x) h
  have h2 := fup_iff x y
  unfold fr
  by_cases hf : fup x y
  · rw [if_pos hf]; have := h2.1 hf; omega
  · rw [if_neg hf]; exact h1
theorem fr_side {x y : Int} (h : y ≠ 0) : 0 ≤ cmpZ (fr x y) 0 * cmpZ y 0 := by
  have h1 := rz_lt (x := x) h
  have h2 := fup_iff x y
  by_cases hf : fup x y
  · have h3 := h2.1 hf
    unfold fr
    rw [if_pos hf]
    rcases cmp_cases (rz x y + y) with ⟨a, e⟩ | ⟨a, e⟩ | ⟨a, e⟩ <;> rcases cmp_cases y with ⟨b, e2⟩ | ⟨b, e2⟩ | ⟨b, e2⟩ <;> rw [e, e2] <;> omega
  · unfold fr
    rw [if_neg hf]
    unfold fup at hf
    omega
theorem r_side {x y : Int} (h : y ≠ 0) : 0 ≤ cmpZ (rz x y) 0 * cmpZ x 0 := by
  obtain ⟨h1, h2⟩ := rz_side (x := x) h
  rcases cmp_cases (rz x y) with ⟨a, e⟩ | ⟨a, e⟩ | ⟨a, e⟩ <;> rcases cmp_cases x with ⟨b, e2⟩ | ⟨b, e2⟩ | ⟨b, e2⟩ <;> rw [e, e2] <;> first | decide | (exfalso; omega)
theorem cmp_beq {x y : Int} : (cmpZ x 0 == cmpZ y 0) = decide (cmpZ x 0 = cmpZ y 0) := by
  by_cases h : cmpZ x 0 = cmpZ y 0
  · rw [decide_eq_true h, h]; simp
  · rw [decide_eq_false h]; simpa using h
theorem alike_eq {x y : Int} (h : y ≠ 0) (hr : rz x y ≠ 0) : decide (x.tdiv y = fq x y) = (cmpZ x 0 == cmpZ y 0) := by
  obtain ⟨h1, h2⟩ := rz_side (x := x) h
  have h3 := fup_iff x y
  rw [cmp_beq]
  unfold fq
  by_cases hf : fup x y
  · have h4 := h3.1 hf
    rw [if_pos hf, decide_eq_false (by omega), decide_eq_false]
    rcases cmp_cases x with ⟨b, e2⟩ | ⟨b, e2⟩ | ⟨b, e2⟩ <;> rcases cmp_cases y with ⟨c, e3⟩ | ⟨c, e3⟩ | ⟨c, e3⟩ <;> rw [e2, e3] <;> omega
  · rw [if_neg hf, decide_eq_true rfl, decide_eq_true]
    have h4 : ¬ ((rz x y < 0 ∧ 0 < y) ∨ (0 < rz x y ∧ y < 0)) := fun k => hf (h3.2 k)
    rcases cmp_cases x with ⟨b, e2⟩ | ⟨b, e2⟩ | ⟨b, e2⟩ <;> rcases cmp_cases y with ⟨c, e3⟩ | ⟨c, e3⟩ | ⟨c, e3⟩ <;> rw [e2, e3] <;> omega
theorem alike_zero {x y : Int} (hr : rz x y = 0) : decide (x.tdiv y = fq x y) = true := by
  have h3 := fup_iff x y
  unfold fq
  rw [if_neg (fun hf => by have := h3.1 hf; omega)]
  exact decide_eq_true rfl
theorem fq_sz {x y : Int} (h : Sz x 30) : Sz (fq x y) 31 := by
  unfold fq
  split
  · exact (h.le (tdiv_le x y)).sub (Sz.one.mono (by decide))
  · exact (h.le (tdiv_le x y)).mono (by decide)
theorem fr_sz {x y : Int} (h : Sz x 30) (h2 : Sz y 30) : Sz (fr x y) 31 := by
  unfold fr
  split
  · exact (h.le (rz_le x y)).add h2
  · exact (h.le (rz_le x y)).mono (by decide)

set_option maxRecDepth 100000 in
set_option maxHeartbeats 3200000 in
theorem lsize_any {n : Bool} {o : Option Addr} {l c : Nat} {x : Int} {w : World} (ha : INum w (.agg #[.bool n, .slice o l c]) x) :
    Calls Tryd.prog 18 #[.agg #[.bool n, .slice o l c]] w fun e w' => e = .returned (.agg #[.bool false, .slice o l c]) ∧ INum w' (.agg #[.bool false, .slice o l c]) (x.natAbs : Int) ∧ Below w.heap.size w w' := by
  have hbel : Below w.heap.size w ((w.alloc (.cells #[.bool n, .slice o l c] 25)).alloc (.cells #[.bool false, .slice o l c] 25)) := bstep (belowA _ _) (belowA _ _)
  have hi : INum ((w.alloc (.cells #[.bool n, .slice o l c] 25)).alloc (.cells #[.bool false, .slice o l c] 25)) (.agg #[.bool false, .slice o l c]) (x.natAbs : Int) := by
    obtain ⟨xs, h1, h2, h3, _⟩ := ha.abs
    exact ⟨false, o, l, c, xs, rfl, h1.below (Nat.le_refl _) hbel, h2, by unfold zv; simp [h3]⟩
  have HI : Hid _ := hi
  have HB : Hid _ := hbel
  clear hi hbel ha
  go_enter Tryd.func18, Tryd.ntmps18
  go_wp2_with fail
  (try simp only [Exit.inBlock, Exit.then])
  exact bodyPost_ret (results_cell_row rfl _ _ (w.heap.size + 1) 25 _ (0, 0) _ rfl (heap_alloc2_new w _ _) Tryd.underlying25 rfl (by kernel_rfl)) rfl ⟨rfl, HI.out, HB.out⟩

set_option maxRecDepth 100000 in
set_option maxHeartbeats 12800000 in
theorem wholeDivides_top (na : Bool) (ao : Option Addr) (al ac : Nat) (xa : List Nat) (nb : Bool) (bo : Option Addr) (bl bc : Nat) (xb : List Nat) (w1 : World) (ua : Num w1 (.slice ao al ac) xa) (ub : Num w1 (.slice bo bl bc) xb) :
    Calls Tryd.prog 4 #[.agg #[.bool na, .slice ao al ac], .agg #[.bool nb, .slice bo bl bc]] w1 fun e w' => e = .returned (.bool true) ∧ Below w1.heap.size w1 w' := by
  obtain ⟨W1, hW1⟩ : ∃ W1, W1 = (w1.alloc (.cells #[.bool na, .slice ao al ac] 25)).alloc (.cells #[.bool nb, .slice bo bl bc] 25) := ⟨_, rfl⟩
  have q0 : ICell W1 (w1.heap.size) na (.slice ao al ac) := by rw [hW1]; exact (icell_step (icell_new _ (by simp)))
  have q1 : ICell W1 (w1.heap.size + 1) nb (.slice bo bl bc) := by rw [hW1]; exact (icell_new _ (by simp))
  have hb : Below w1.heap.size w1 W1 := by rw [hW1]; exact bstep (belowA w1 _) (belowA _ _)
  replace ua := ua.below (Nat.le_refl _) hb
  replace ub := ub.below (Nat.le_refl _) hb
  have HW1 : Hid (W1 = (w1.alloc (.cells #[.bool na, .slice ao al ac] 25)).alloc (.cells #[.bool nb, .slice bo bl bc] 25)) := hW1
  clear hW1
  obtain ⟨g, hg⟩ : ∃ g, g = w1.heap.size := ⟨_, rfl⟩
  rw [← hg] at q0 q1
  have HG : Hid (g = w1.heap.size) := hg
  go_enter Tryd.func4, Tryd.ntmps4
  go_wp2_with fail
  rw [← HW1.out, ← hg]
  clear HW1 hg
  refine (walive_yes _).mono ?_
  rintro e w2 ⟨rfl, b⟩
  replace q0 := q0.below b
  replace q1 := q1.below b
  replace hb := bstep hb b
  replace ua := ua.below (Nat.le_refl _) b
  replace ub := ub.below (Nat.le_refl _) b
  clear b
  obtain ⟨c0, d0⟩ := q0.cells
  go_wp2_with fail
  refine (lbig_any _ _ _ _ _).mono ?_
  rintro e w3 ⟨rfl, b⟩
  clear c0 d0
  replace q0 := q0.below b
  replace q1 := q1.below b
  replace hb := bstep hb b
  replace ua := ua.below (Nat.le_refl _) b
  replace ub := ub.below (Nat.le_refl _) b
  clear b
  by_cases ta : 30 < al
  · rw [decide_eq_true ta]
    have HE : Hid (Below w1.heap.size w1 w3) := hb
    clear hb ua ub q0 q1
    go_wp2_with fail
    go_ret
    exact ⟨rfl, HE.out⟩
  rw [decide_eq_false ta]
  obtain ⟨c1, d1⟩ := q1.cells
  go_wp2_with fail
  refine (lbig_any _ _ _ _ _).mono ?_
  rintro e w4 ⟨rfl, b⟩
  clear c1 d1
  replace q0 := q0.below b
  replace q1 := q1.below b
  replace hb := bstep hb b
  replace ua := ua.below (Nat.le_refl _) b
  replace ub := ub.below (Nat.le_refl _) b
  clear b
  by_cases tb : 30 < bl
  · rw [decide_eq_true tb]
    have HE : Hid (Below w1.heap.size w1 w4) := hb
    clear hb ua ub q0 q1
    go_wp2_with fail
    go_ret
    exact ⟨rfl, HE.out⟩
  rw [decide_eq_false tb]
  obtain ⟨ia, sa⟩ := few (n := na) ua ta
  clear ua ta
  obtain ⟨A, hA⟩ : ∃ z, z = zv na (val xa) := ⟨_, rfl⟩
  rw [← hA] at ia sa
  clear hA
  obtain ⟨ib, sb⟩ := few (n := nb) ub tb
  clear ub tb
  obtain ⟨B, hB⟩ : ∃ z, z = zv nb (val xb) := ⟨_, rfl⟩
  rw [← hB] at ib sb
  clear hB
  obtain ⟨Q, hQ⟩ : ∃ Q, Q = A.tdiv B := ⟨_, rfl⟩
  obtain ⟨R, hR⟩ : ∃ R, R = rz A B := ⟨_, rfl⟩
  obtain ⟨F, hF⟩ : ∃ F, F = fq A B := ⟨_, rfl⟩
  obtain ⟨S, hS⟩ : ∃ S, S = fr A B := ⟨_, rfl⟩
  obtain ⟨E, hE⟩ : ∃ E, E = errZ B.natAbs := ⟨_, rfl⟩
  have sq : Sz Q 30 := by rw [hQ]; exact sa.le (tdiv_le A B)
  have sr : Sz R 30 := by rw [hR]; exact sa.le (rz_le A B)
  have sf : Sz F 31 := by rw [hF]; exact fq_sz sa
  have ss : Sz S 31 := by rw [hS]; exact fr_sz sa sb
  have HQ : Hid (Q = A.tdiv B) := hQ
  have HR : Hid (R = rz A B) := hR
  have HF : Hid (F = fq A B) := hF
  have HS : Hid (S = fr A B) := hS
  have HEE : Hid (E = errZ B.natAbs) := hE
  clear hQ hR hF hS hE
  obtain ⟨q0c, q0d⟩ := q0.cells
  obtain ⟨q1c, q1d⟩ := q1.cells
  go_wp2_with fail
  have hf := c_quo ia ib
  rw [← HQ.out, ← HR.out, ← HEE.out] at hf
  refine hf.mono ?_
  rintro e w10 ⟨mq, mr, rfl, hq, hr, _, b⟩
  clear hf
  obtain ⟨qn, qo, ql, qc, hqn, rfl, hql, iq⟩ := hq.see2 sq (by decide)
  obtain ⟨rn, ro, rl, rc, hrn, rfl, hrl, ir⟩ := hr.see2 sr (by decide)
  rw [← hqn, ← hrn]
  have HQL : Hid (ql = (lim Q.natAbs).length) := hql
  clear hq hr hqn hrn hql hrl
  clear q0c q0d q1c q1d
  replace ia := ia.below b
  replace ib := ib.below b
  replace q0 := q0.below b
  replace q1 := q1.below b
  replace hb := bstep hb b
  clear b
  obtain ⟨W11, hW11⟩ : ∃ W, W = (w10.alloc (.cells #[.bool qn, .slice qo ql qc] 25)).alloc (.cells #[.bool rn, .slice ro rl rc] 25) := ⟨_, rfl⟩
  have p1 : ICell W11 w10.heap.size qn (.slice qo ql qc) := by rw [hW11]; exact icell_step (icell_new _ rfl)
  have p2 : ICell W11 (w10.heap.size + 1) rn (.slice ro rl rc) := by rw [hW11]; exact icell_new _ (by simp)
  have b : Below w10.heap.size w10 W11 := by rw [hW11]; exact bstep (belowA _ _) (belowA _ _)
  replace ia := ia.below b
  replace ib := ib.below b
  replace iq := iq.below b
  replace ir := ir.below b
  replace q0 := q0.below b
  replace q1 := q1.below b
  replace hb := bstep hb b
  clear b
  have c0 : ((w10.alloc (.cells #[.bool qn, .slice qo ql qc] 25)).alloc (.cells #[.bool rn, .slice ro rl rc] 25)).cell? ⟨g, 0, none⟩ = some (.bool na) := by rw [← hW11]; exact q0.cells.1
  have c1 : ((w10.alloc (.cells #[.bool qn, .slice qo ql qc] 25)).alloc (.cells #[.bool rn, .slice ro rl rc] 25)).cell? ⟨g, 1, none⟩ = some (.slice ao al ac) := by rw [← hW11]; exact q0.cells.2
  have c2 : ((w10.alloc (.cells #[.bool qn, .slice qo ql qc] 25)).alloc (.cells #[.bool rn, .slice ro rl rc] 25)).cell? ⟨g + 1, 0, none⟩ = some (.bool nb) := by rw [← hW11]; exact q1.cells.1
  have c3 : ((w10.alloc (.cells #[.bool qn, .slice qo ql qc] 25)).alloc (.cells #[.bool rn, .slice ro rl rc] 25)).cell? ⟨g + 1, 1, none⟩ = some (.slice bo bl bc) := by rw [← hW11]; exact q1.cells.2
  obtain ⟨v1, hv1⟩ : ∃ v, v = w10.heap.size := ⟨_, rfl⟩
  rw [← hv1] at p1 p2
  have HW11 : Hid (W11 = (w10.alloc (.cells #[.bool qn, .slice qo ql qc] 25)).alloc (.cells #[.bool rn, .slice ro rl rc] 25)) := hW11
  have Hv1 : Hid (v1 = w10.heap.size) := hv1
  clear hW11 hv1
  go_wp2_with fail
  rw [← HW11.out, ← Hv1.out]
  clear HW11 Hv1 c0 c1 c2 c3
  have hf := c_floor ia ib
  rw [← HF.out, ← HS.out, ← HEE.out] at hf
  refine hf.mono ?_
  rintro e w12 ⟨mq, mr, rfl, hq, hr, _, b⟩
  clear hf
  obtain ⟨fn, fo, fl, fc, hqn, rfl, hql, if_⟩ := hq.see2 sf (by decide)
  obtain ⟨sn, so, sl, sc, hrn, rfl, hrl, is_⟩ := hr.see2 ss (by decide)
  rw [← hqn, ← hrn]
  have HSL : Hid (sl = (lim S.natAbs).length) := hrl
  clear hq hr hqn hrn hql hrl
  replace ia := ia.below b
  replace ib := ib.below b
  replace iq := iq.below b
  replace ir := ir.below b
  replace q0 := q0.below b
  replace q1 := q1.below b
  replace p1 := p1.below b
  replace p2 := p2.below b
  replace hb := bstep hb b
  clear b
  obtain ⟨W13, hW13⟩ : ∃ W, W = (w12.alloc (.cells #[.bool fn, .slice fo fl fc] 25)).alloc (.cells #[.bool sn, .slice so sl sc] 25) := ⟨_, rfl⟩
  have p3 : ICell W13 w12.heap.size fn (.slice fo fl fc) := by rw [hW13]; exact icell_step (icell_new _ rfl)
  have p4 : ICell W13 (w12.heap.size + 1) sn (.slice so sl sc) := by rw [hW13]; exact icell_new _ (by simp)
  have b : Below w12.heap.size w12 W13 := by rw [hW13]; exact bstep (belowA _ _) (belowA _ _)
  replace ia := ia.below b
  replace ib := ib.below b
  replace iq := iq.below b
  replace ir := ir.below b
  replace if_ := if_.below b
  replace is_ := is_.below b
  replace q0 := q0.below b
  replace q1 := q1.below b
  replace p1 := p1.below b
  replace p2 := p2.below b
  replace hb := bstep hb b
  clear b
  have c0 : ((w12.alloc (.cells #[.bool fn, .slice fo fl fc] 25)).alloc (.cells #[.bool sn, .slice so sl sc] 25)).cell? ⟨g, 0, none⟩ = some (.bool na) := by rw [← hW13]; exact q0.cells.1
  have c1 : ((w12.alloc (.cells #[.bool fn, .slice fo fl fc] 25)).alloc (.cells #[.bool sn, .slice so sl sc] 25)).cell? ⟨g, 1, none⟩ = some (.slice ao al ac) := by rw [← hW13]; exact q0.cells.2
  have c2 : ((w12.alloc (.cells #[.bool fn, .slice fo fl fc] 25)).alloc (.cells #[.bool sn, .slice so sl sc] 25)).cell? ⟨g + 1, 0, none⟩ = some (.bool nb) := by rw [← hW13]; exact q1.cells.1
  have c3 : ((w12.alloc (.cells #[.bool fn, .slice fo fl fc] 25)).alloc (.cells #[.bool sn, .slice so sl sc] 25)).cell? ⟨g + 1, 1, none⟩ = some (.slice bo bl bc) := by rw [← hW13]; exact q1.cells.2
  obtain ⟨v3, hv3⟩ : ∃ v, v = w12.heap.size := ⟨_, rfl⟩
  rw [← hv3] at p3 p4
  have HW13 : Hid (W13 = (w12.alloc (.cells #[.bool fn, .slice fo fl fc] 25)).alloc (.cells #[.bool sn, .slice so sl sc] 25)) := hW13
  have Hv3 : Hid (v3 = w12.heap.size) := hv3
  clear hW13 hv3
  go_wp2_with fail
  rw [← HW13.out, ← Hv3.out]
  clear HW13 Hv3 c0 c1 c2 c3
  refine (c_sign ib).mono ?_
  rintro e w14 ⟨rfl, b⟩
  replace ia := ia.below b
  replace ib := ib.below b
  replace iq := iq.below b
  replace ir := ir.below b
  replace if_ := if_.below b
  replace is_ := is_.below b
  replace q0 := q0.below b
  replace q1 := q1.below b
  replace p1 := p1.below b
  replace p2 := p2.below b
  replace p3 := p3.below b
  replace p4 := p4.below b
  replace hb := bstep hb b
  clear b
  by_cases hB : B = 0
  · have HZ : Hid (cmpZ B 0 = 0 ∧ E = 11 ∧ ql = 0 ∧ sl = 0) := by
      have h0 : rz A B = 0 := by unfold rz; rw [if_pos hB]
      have h1 : ¬ fup A B := by unfold fup; rw [h0]; simp [cmpZ]
      refine ⟨by rw [hB]; rfl, by rw [HEE.out, hB]; rfl, ?_, ?_⟩
      · rw [HQL.out, HQ.out, hB, Int.tdiv_zero]; rfl
      · rw [HSL.out, HS.out]; unfold fr; rw [if_neg h1, h0]; rfl
    obtain ⟨hc, hE0, hq0, hs0⟩ := HZ.out
    rw [hc]
    subst hE0
    subst hq0
    subst hs0
    clear hc hB HZ
    obtain ⟨p1c, p1d⟩ := p1.cells
    obtain ⟨p4c, p4d⟩ := p4.cells
    have HE : Hid (Below w1.heap.size w1 w14) := hb
    clear hb ia ib iq ir if_ is_ q0 q1 p1 p2 p3 p4
    go_wp2_with fail
    go_ret
    exact ⟨rfl, HE.out⟩
  have HZ : Hid (E = 0) := by show _ = _; rw [HEE.out]; unfold errZ; rw [if_neg (by omega)]
  have hE0 := HZ.out
  subst hE0
  have HB0 : Hid (B ≠ 0) := hB
  obtain ⟨cb, hcb⟩ : ∃ c, c = cmpZ B 0 := ⟨_, rfl⟩
  have HCB : Hid (cmpZ B 0 = cb) := hcb.symm
  have hcb0 : (cb == 0) = false := by rw [hcb]; cases hh : (cmpZ B 0 == 0) with
    | false => rfl
    | true => exact absurd ((cmpZ_zero B).1 (by simpa using hh)) hB
  rw [← hcb]
  clear hcb hB HZ
  have HD1 : Hid (decide (Q * B + R = A) = true) := decide_eq_true (by rw [HQ.out, HR.out]; exact div_back HB0.out)
  have HD2 : Hid (decide (F * B + S = A) = true) := decide_eq_true (by rw [HF.out, HS.out]; exact fdiv_back HB0.out)
  have z1 := sq.mul sb
  have z2 := (z1.add (sr.mono (by decide)))
  have z3 := sf.mul sb
  have z4 := (z3.add (ss.mono (by decide)))
  obtain ⟨q0c, q0d⟩ := q0.cells
  obtain ⟨q1c, q1d⟩ := q1.cells
  obtain ⟨p1c, p1d⟩ := p1.cells
  obtain ⟨p2c, p2d⟩ := p2.cells
  obtain ⟨p3c, p3d⟩ := p3.cells
  obtain ⟨p4c, p4d⟩ := p4.cells
  go_wp2_with fail
  have HI : Hid (INum w14.drew (.agg #[.bool na, .slice ao al ac]) A ∧ INum w14.drew (.agg #[.bool nb, .slice bo bl bc]) B ∧ INum w14.drew (.agg #[.bool qn, .slice qo ql qc]) Q ∧ INum w14.drew (.agg #[.bool rn, .slice ro rl rc]) R ∧ INum w14.drew (.agg #[.bool fn, .slice fo fl fc]) F ∧ INum w14.drew (.agg #[.bool sn, .slice so sl sc]) S) := ⟨ia.below (below_drew' _), ib.below (below_drew' _), iq.below (below_drew' _), ir.below (below_drew' _), if_.below (below_drew' _), is_.below (below_drew' _)⟩
  go_region_held3 (fun w' => w'.cell? ⟨g, 0, none⟩ = some (.bool na) ∧ w'.cell? ⟨g, 1, none⟩ = some (.slice ao al ac) ∧ w'.cell? ⟨g + 1, 0, none⟩ = some (.bool nb) ∧ w'.cell? ⟨g + 1, 1, none⟩ = some (.slice bo bl bc) ∧ w'.cell? ⟨v1, 0, none⟩ = some (.bool qn) ∧ w'.cell? ⟨v1, 1, none⟩ = some (.slice qo ql qc) ∧ w'.cell? ⟨v1 + 1, 0, none⟩ = some (.bool rn) ∧ w'.cell? ⟨v1 + 1, 1, none⟩ = some (.slice ro rl rc) ∧ w'.cell? ⟨v3, 0, none⟩ = some (.bool fn) ∧ w'.cell? ⟨v3, 1, none⟩ = some (.slice fo fl fc) ∧ w'.cell? ⟨v3 + 1, 0, none⟩ = some (.bool sn) ∧ w'.cell? ⟨v3 + 1, 1, none⟩ = some (.slice so sl sc)) (((try dsimp only); go_split_ands; refine ⟨?_, ?_, ?_, ?_, ?_, ?_, ?_, ?_, ?_, ?_, ?_, ?_⟩ <;> first | exact keepB (by with_reducible assumption) (by with_reducible assumption) | go_keep)) (first
    | (go_at_call_of 14 qo; refine (c_mul HI.out.2.2.1 HI.out.2.1).mono ?_; rintro e w15 ⟨v, rfl, hv, b15⟩; obtain ⟨dn, do_, dl, dc, rfl, id_⟩ := hv.see z1 (by decide); clear hv)
    | (go_at_call_of 13 do_; refine (c_add id_ (HI.out.2.2.2.1.below b15)).mono ?_; rintro e w16 ⟨v, rfl, hv, b16⟩; obtain ⟨en, eo, el, ec, rfl, ie⟩ := hv.see z2 (by decide); clear hv)
    | (go_at_call_of 17 eo; refine (lequal_any ie ((HI.out.1.below b15).below b16)).mono ?_; rw [HD1.out]; rintro e w17 ⟨rfl, b17⟩)
    | (go_at_call_of 14 fo; refine (c_mul (((HI.out.2.2.2.2.1.below b15).below b16).below b17) (((HI.out.2.1.below b15).below b16).below b17)).mono ?_; rintro e w18 ⟨v, rfl, hv, b18⟩; obtain ⟨jn, jo, jl, jc, rfl, ij⟩ := hv.see z3 (by decide); clear hv)
    | (go_at_call_of 13 jo; refine (c_add ij ((((HI.out.2.2.2.2.2.below b15).below b16).below b17).below b18)).mono ?_; rintro e w19 ⟨v, rfl, hv, b19⟩; obtain ⟨kn, ko, kl, kc, rfl, ik⟩ := hv.see z4 (by decide); clear hv)
    | (go_at_call_of 17 ko; refine (lequal_any ik (((((HI.out.1.below b15).below b16).below b17).below b18).below b19)).mono ?_; rw [HD2.out]; rintro e w20 ⟨rfl, b20⟩))
  have b := bstep (below_drew' w14) (bstep b15 (bstep b16 (bstep b17 (bstep b18 (bstep b19 b20)))))
  clear q0c q0d q1c q1d p1c p1d p2c p2d p3c p3d p4c p4d
  replace ia := ia.below b
  replace ib := ib.below b
  replace iq := iq.below b
  replace ir := ir.below b
  replace if_ := if_.below b
  replace is_ := is_.below b
  replace q0 := q0.below b
  replace q1 := q1.below b
  replace p1 := p1.below b
  replace p2 := p2.below b
  replace p3 := p3.below b
  replace p4 := p4.below b
  replace hb := bstep hb b
  clear b
  clear id_ ie ij ik b15 b16 b17 b18 b19 b20 HI HD1 HD2 z1 z2 z3 z4
  have HC1 : Hid (cmpZ (R.natAbs : Int) (B.natAbs : Int) = -1) := cmpZ_lt (by rw [HR.out]; have := rz_lt (x := A) HB0.out; omega)
  have HC2 : Hid (cmpZ (S.natAbs : Int) (B.natAbs : Int) = -1) := cmpZ_lt (by rw [HS.out]; have := fr_lt (x := A) HB0.out; omega)
  obtain ⟨q1c, q1d⟩ := q1.cells
  obtain ⟨p2c, p2d⟩ := p2.cells
  obtain ⟨p4c, p4d⟩ := p4.cells
  go_wp2_with fail
  have HI : Hid (INum w20.drew (.agg #[.bool nb, .slice bo bl bc]) B ∧ INum w20.drew (.agg #[.bool rn, .slice ro rl rc]) R ∧ INum w20.drew (.agg #[.bool sn, .slice so sl sc]) S) := ⟨ib.below (below_drew' _), ir.below (below_drew' _), is_.below (below_drew' _)⟩
  go_region_held3 (fun w' => w'.cell? ⟨g + 1, 0, none⟩ = some (.bool nb) ∧ w'.cell? ⟨g + 1, 1, none⟩ = some (.slice bo bl bc) ∧ w'.cell? ⟨v1 + 1, 0, none⟩ = some (.bool rn) ∧ w'.cell? ⟨v1 + 1, 1, none⟩ = some (.slice ro rl rc) ∧ w'.cell? ⟨v3 + 1, 0, none⟩ = some (.bool sn) ∧ w'.cell? ⟨v3 + 1, 1, none⟩ = some (.slice so sl sc)) (((try dsimp only); go_split_ands; refine ⟨?_, ?_, ?_, ?_, ?_, ?_⟩ <;> first | exact keepB (by with_reducible assumption) (by with_reducible assumption) | go_keep)) (first
    | (go_at_call_of 18 ro; refine (lsize_any HI.out.2.1).mono ?_; rintro e w21 ⟨rfl, i1, b21⟩)
    | (go_at_call_of 18 so; refine (lsize_any (((HI.out.2.2.below b21).below b22).below b23)).mono ?_; rintro e w24 ⟨rfl, i3, b24⟩)
    | (go_at_call_of 10 ro; refine (c_cmp (i1.below b22) i2).mono ?_; rw [HC1.out]; rintro e w23 ⟨rfl, b23⟩)
    | (go_at_call_of 10 so; refine (c_cmp (i3.below b25) i4).mono ?_; rw [HC2.out]; rintro e w26 ⟨rfl, b26⟩)
    | (go_at_call_of 18 bo; refine (lsize_any ((((HI.out.1.below b21).below b22).below b23).below b24)).mono ?_; rintro e w25 ⟨rfl, i4, b25⟩)
    | (go_at_call_of 18 bo; refine (lsize_any (HI.out.1.below b21)).mono ?_; rintro e w22 ⟨rfl, i2, b22⟩))
  have b := bstep (below_drew' w20) (bstep b21 (bstep b22 (bstep b23 (bstep b24 (bstep b25 b26)))))
  clear q1c q1d p2c p2d p4c p4d
  replace ia := ia.below b
  replace ib := ib.below b
  replace iq := iq.below b
  replace ir := ir.below b
  replace if_ := if_.below b
  replace is_ := is_.below b
  replace q0 := q0.below b
  replace q1 := q1.below b
  replace p1 := p1.below b
  replace p2 := p2.below b
  replace p3 := p3.below b
  replace p4 := p4.below b
  replace hb := bstep hb b
  clear b
  clear i1 i2 i3 i4 b21 b22 b23 b24 b25 b26 HI HC1 HC2
  obtain ⟨s1, hs1⟩ : ∃ s, s = cmpZ R 0 := ⟨_, rfl⟩
  obtain ⟨s2, hs2⟩ : ∃ s, s = cmpZ A 0 := ⟨_, rfl⟩
  obtain ⟨s3, hs3⟩ : ∃ s, s = cmpZ S 0 := ⟨_, rfl⟩
  have HS1 : Hid (cmpZ R 0 = s1) := hs1.symm
  have HS2 : Hid (cmpZ A 0 = s2) := hs2.symm
  have HS3 : Hid (cmpZ S 0 = s3) := hs3.symm
  obtain ⟨p5, hp5⟩ : ∃ p, p = s1 * s2 := ⟨_, rfl⟩
  obtain ⟨p6, hp6⟩ : ∃ p, p = s3 * cb := ⟨_, rfl⟩
  have hp51 : 0 ≤ p5 := by rw [hp5, hs1, hs2, HR.out]; exact r_side HB0.out
  have hp61 : 0 ≤ p6 := by rw [hp6, hs3, HS.out, ← HCB.out]; exact fr_side HB0.out
  have hp52 : p5 ≤ 1 := by rw [hp5, hs1, hs2]; exact (cmpZ_mul R A).2
  have hp62 : p6 ≤ 1 := by rw [hp6, hs3, ← HCB.out]; exact (cmpZ_mul S B).2
  have hw5 : IntKind.i64.wrap (s1 * s2) = p5 := by rw [← hp5, IntKind.wrap_i64]; omega
  have hw6 : IntKind.i64.wrap (s3 * cb) = p6 := by rw [← hp6, IntKind.wrap_i64]; omega
  clear hs1 hs2 hs3 hp5 hp6
  obtain ⟨q0c, q0d⟩ := q0.cells
  obtain ⟨q1c, q1d⟩ := q1.cells
  obtain ⟨p2c, p2d⟩ := p2.cells
  obtain ⟨p4c, p4d⟩ := p4.cells
  go_wp2_with fail
  have HI : Hid (INum w26.drew (.agg #[.bool na, .slice ao al ac]) A ∧ INum w26.drew (.agg #[.bool nb, .slice bo bl bc]) B ∧ INum w26.drew (.agg #[.bool rn, .slice ro rl rc]) R ∧ INum w26.drew (.agg #[.bool sn, .slice so sl sc]) S) := ⟨ia.below (below_drew' _), ib.below (below_drew' _), ir.below (below_drew' _), is_.below (below_drew' _)⟩
  go_region_held3 (fun w' => w'.cell? ⟨g, 0, none⟩ = some (.bool na) ∧ w'.cell? ⟨g, 1, none⟩ = some (.slice ao al ac) ∧ w'.cell? ⟨g + 1, 0, none⟩ = some (.bool nb) ∧ w'.cell? ⟨g + 1, 1, none⟩ = some (.slice bo bl bc) ∧ w'.cell? ⟨v1 + 1, 0, none⟩ = some (.bool rn) ∧ w'.cell? ⟨v1 + 1, 1, none⟩ = some (.slice ro rl rc) ∧ w'.cell? ⟨v3 + 1, 0, none⟩ = some (.bool sn) ∧ w'.cell? ⟨v3 + 1, 1, none⟩ = some (.slice so sl sc)) (((try dsimp only); go_split_ands; refine ⟨?_, ?_, ?_, ?_, ?_, ?_, ?_, ?_⟩ <;> first | exact keepB (by with_reducible assumption) (by with_reducible assumption) | go_keep)) (first
    | (go_at_call_of 11 ro; refine (c_sign HI.out.2.2.1).mono ?_; rw [HS1.out]; rintro e w27 ⟨rfl, b27⟩)
    | (go_at_call_of 11 ao; refine (c_sign (HI.out.1.below b27)).mono ?_; rw [HS2.out]; rintro e w28 ⟨rfl, b28⟩)
    | (go_at_call_of 11 so; refine (c_sign ((HI.out.2.2.2.below b27).below b28)).mono ?_; rw [HS3.out]; rintro e w29 ⟨rfl, b29⟩)
    | (go_at_call_of 11 bo; refine (c_sign (((HI.out.2.1.below b27).below b28).below b29)).mono ?_; rw [HCB.out]; rintro e w30 ⟨rfl, b30⟩))
  have b := bstep (below_drew' w26) (bstep b27 (bstep b28 (bstep b29 b30)))
  clear q0c q0d q1c q1d p2c p2d p4c p4d
  replace ia := ia.below b
  replace ib := ib.below b
  replace iq := iq.below b
  replace ir := ir.below b
  replace if_ := if_.below b
  replace is_ := is_.below b
  replace q0 := q0.below b
  replace q1 := q1.below b
  replace p1 := p1.below b
  replace p2 := p2.below b
  replace p3 := p3.below b
  replace p4 := p4.below b
  replace hb := bstep hb b
  clear b
  clear b27 b28 b29 b30 HI hw5 hw6
  by_cases hR0 : R = 0
  · have hs10 : s1 = 0 := by rw [← HS1.out, hR0]; rfl
    subst hs10
    have HAL : Hid (decide (Q = F) = true) := by show _ = _; rw [HQ.out, HF.out]; exact alike_zero (by rw [← HR.out]; exact hR0)
    clear hR0
    obtain ⟨q0c, q0d⟩ := q0.cells
    obtain ⟨q1c, q1d⟩ := q1.cells
    obtain ⟨p2c, p2d⟩ := p2.cells
    go_wp2_with fail
    have HI : Hid (INum w30.drew (.agg #[.bool na, .slice ao al ac]) A ∧ INum w30.drew (.agg #[.bool nb, .slice bo bl bc]) B ∧ INum w30.drew (.agg #[.bool rn, .slice ro rl rc]) R) := ⟨ia.below (below_drew' _), ib.below (below_drew' _), ir.below (below_drew' _)⟩
    refine region_late [(0, fun w' => w'.cell? ⟨v1 + 1, 0, none⟩ = some (.bool rn) ∧ w'.cell? ⟨v1 + 1, 1, none⟩ = some (.slice ro rl rc))] (by kernel_rfl) ?_
    have hHeld : AllL w30.drew [(0, fun w' => w'.cell? ⟨v1 + 1, 0, none⟩ = some (.bool rn) ∧ w'.cell? ⟨v1 + 1, 1, none⟩ = some (.slice ro rl rc))] := ⟨⟨p2c, p2d⟩, trivial⟩
    refine late_take 0 (v := .agg #[.bool rn, .slice ro rl rc]) rfl (by kernel_rfl) (List.Mem.head _) (by kernel_rfl) (by kernel_rfl) (by kernel_rfl) (by kernel_rfl) (fun _ _ _ h => h) (Or.inl ⟨by rfl, ?_⟩) hHeld ?_
    · (intro u hu; (try dsimp only at hu); go_split_ands; go_simp)
    (try simp only [Act.put, List.setIfInBounds_toArray, List.set_cons_zero, List.set_cons_succ])
    refine late_step 1 (by kernel_rfl) rfl (fun K hK => ?_)
    go_simp
    refine (c_sign HI.out.2.2).mono ?_
    rw [HS1.out]
    rintro e w31 ⟨rfl, b31⟩
    clear hHeld
    have hHeld : AllL w31 [(0, fun w' => w'.cell? ⟨v1 + 1, 0, none⟩ = some (.bool rn) ∧ w'.cell? ⟨v1 + 1, 1, none⟩ = some (.slice ro rl rc))] := ⟨(p2.below (bstep (below_drew' w30) b31)).cells, trivial⟩
    go_wp2_with fail
    refine hK.out _ _ (AllL.kept hHeld) ?_
    clear hK K
    (try simp only [Act.put, List.setIfInBounds_toArray, List.set_cons_zero, List.set_cons_succ])
    refine late_free 2 (v := .bool true) rfl (by kernel_rfl) (by kernel_rfl) (by kernel_rfl) (by kernel_rfl) (by kernel_rfl) (by kernel_rfl) (fun _ _ _ h => h) (Or.inl ⟨by rfl, ?_⟩) hHeld ?_
    · (intro u _; go_simp)
    (try simp only [Act.put, List.setIfInBounds_toArray, List.set_cons_zero, List.set_cons_succ])
    refine late_free 3 (v := .bool true) rfl (by kernel_rfl) (by kernel_rfl) (by kernel_rfl) (by kernel_rfl) (by kernel_rfl) (by kernel_rfl) (fun _ _ _ h => h) (Or.inl ⟨by rfl, ?_⟩) hHeld ?_
    · (intro u _; go_simp)
    (try simp only [Act.put, List.setIfInBounds_toArray, List.set_cons_zero, List.set_cons_succ])
    refine late_free 4 (v := undef) rfl (by kernel_rfl) (by kernel_rfl) (by kernel_rfl) (by kernel_rfl) (by kernel_rfl) (by kernel_rfl) (fun _ _ _ h => h) (Or.inr ⟨by rfl, rfl⟩) hHeld ?_
    (try simp only [Act.put, List.setIfInBounds_toArray, List.set_cons_zero, List.set_cons_succ])
    refine late_free 5 (v := undef) rfl (by kernel_rfl) (by kernel_rfl) (by kernel_rfl) (by kernel_rfl) (by kernel_rfl) (by kernel_rfl) (fun _ _ _ h => h) (Or.inr ⟨by rfl, rfl⟩) hHeld ?_
    (try simp only [Act.put, List.setIfInBounds_toArray, List.set_cons_zero, List.set_cons_succ])
    refine late_free 6 (v := undef) rfl (by kernel_rfl) (by kernel_rfl) (by kernel_rfl) (by kernel_rfl) (by kernel_rfl) (by kernel_rfl) (fun _ _ _ h => h) (Or.inr ⟨by rfl, rfl⟩) hHeld ?_
    (try simp only [Act.put, List.setIfInBounds_toArray, List.set_cons_zero, List.set_cons_succ])
    refine late_free 7 (v := undef) rfl (by kernel_rfl) (by kernel_rfl) (by kernel_rfl) (by kernel_rfl) (by kernel_rfl) (by kernel_rfl) (fun _ _ _ h => h) (Or.inr ⟨by rfl, rfl⟩) hHeld ?_
    (try simp only [Act.put, List.setIfInBounds_toArray, List.set_cons_zero, List.set_cons_succ])
    refine late_free 8 (v := undef) rfl (by kernel_rfl) (by kernel_rfl) (by kernel_rfl) (by kernel_rfl) (by kernel_rfl) (by kernel_rfl) (fun _ _ _ h => h) (Or.inr ⟨by rfl, rfl⟩) hHeld ?_
    (try simp only [Act.put, List.setIfInBounds_toArray, List.set_cons_zero, List.set_cons_succ])
    refine late_free 9 (v := .bool true) rfl (by kernel_rfl) (by kernel_rfl) (by kernel_rfl) (by kernel_rfl) (by kernel_rfl) (by kernel_rfl) (fun _ _ _ h => h) (Or.inl ⟨by rfl, ?_⟩) hHeld ?_
    · (intro u _; go_simp)
    (try simp only [Act.put, List.setIfInBounds_toArray, List.set_cons_zero, List.set_cons_succ])
    refine late_step 10 (by kernel_rfl) rfl (fun K hK => ?_)
    go_simp
    refine hK.out _ _ ⟨Or.inl ⟨10, by kernel_rfl, by kernel_rfl⟩, trivial⟩ ?_
    clear hK K
    (try simp only [Act.put, List.setIfInBounds_toArray, List.set_cons_zero, List.set_cons_succ])
    refine late_done (by kernel_rfl) ?_ _
    clear hHeld
    have b := bstep (below_drew' w30) b31
    clear q0c q0d q1c q1d p2c p2d
    replace ia := ia.below b
    replace ib := ib.below b
    replace iq := iq.below b
    replace ir := ir.below b
    replace if_ := if_.below b
    replace is_ := is_.below b
    replace q0 := q0.below b
    replace q1 := q1.below b
    replace p1 := p1.below b
    replace p2 := p2.below b
    replace p3 := p3.below b
    replace p4 := p4.below b
    replace hb := bstep hb b
    clear b
    clear b31 HI
    obtain ⟨p1c, p1d⟩ := p1.cells
    obtain ⟨p3c, p3d⟩ := p3.cells
    go_wp2_with fail
    refine (lequal_any iq if_).mono ?_
    rw [HAL.out]
    rintro e w40 ⟨rfl, b⟩
    have HE : Hid (Below w1.heap.size w1 w40) := bstep hb b
    clear b hb ia ib iq ir if_ is_ q0 q1 p1 p2 p3 p4 p1c p1d p3c p3d
    go_wp2_with fail
    go_ret
    exact ⟨rfl, HE.out⟩
  · have hs10 : (s1 == 0) = false := by cases hh : (s1 == 0) with
      | false => rfl
      | true => exact absurd ((cmpZ_zero R).1 (by rw [HS1.out]; simpa using hh)) hR0
    obtain ⟨al_, hal⟩ : ∃ b, (s2 == cb) = b := ⟨_, rfl⟩
    have HAL : Hid (decide (Q = F) = al_) := by show _ = _; rw [HQ.out, HF.out, ← hal, ← HS2.out, ← HCB.out]; exact alike_eq HB0.out (by rw [← HR.out]; exact hR0)
    clear hR0
    have hall : (al_ == al_) = true := by simp
    obtain ⟨q0c, q0d⟩ := q0.cells
    obtain ⟨q1c, q1d⟩ := q1.cells
    obtain ⟨p2c, p2d⟩ := p2.cells
    go_wp2_with fail
    have HI : Hid (INum w30.drew (.agg #[.bool na, .slice ao al ac]) A ∧ INum w30.drew (.agg #[.bool nb, .slice bo bl bc]) B ∧ INum w30.drew (.agg #[.bool rn, .slice ro rl rc]) R) := ⟨ia.below (below_drew' _), ib.below (below_drew' _), ir.below (below_drew' _)⟩
    go_region_held3 (fun w' => w'.cell? ⟨g, 0, none⟩ = some (.bool na) ∧ w'.cell? ⟨g, 1, none⟩ = some (.slice ao al ac) ∧ w'.cell? ⟨g + 1, 0, none⟩ = some (.bool nb) ∧ w'.cell? ⟨g + 1, 1, none⟩ = some (.slice bo bl bc) ∧ w'.cell? ⟨v1 + 1, 0, none⟩ = some (.bool rn) ∧ w'.cell? ⟨v1 + 1, 1, none⟩ = some (.slice ro rl rc)) (((try dsimp only); go_split_ands; refine ⟨?_, ?_, ?_, ?_, ?_, ?_⟩ <;> first | exact keepB (by with_reducible assumption) (by with_reducible assumption) | go_keep)) (first
      | (go_at_call_of 11 ro; refine (c_sign HI.out.2.2).mono ?_; rw [HS1.out]; rintro e w31 ⟨rfl, b31⟩)
      | (go_at_call_of 11 ao; refine (c_sign (HI.out.1.below b31)).mono ?_; rw [HS2.out]; rintro e w32 ⟨rfl, b32⟩)
      | (go_at_call_of 11 bo; refine (c_sign ((HI.out.2.1.below b31).below b32)).mono ?_; rw [HCB.out]; rintro e w33 ⟨rfl, b33⟩))
    have b := bstep (below_drew' w30) (bstep b31 (bstep b32 b33))
    clear q0c q0d q1c q1d p2c p2d
    replace ia := ia.below b
    replace ib := ib.below b
    replace iq := iq.below b
    replace ir := ir.below b
    replace if_ := if_.below b
    replace is_ := is_.below b
    replace q0 := q0.below b
    replace q1 := q1.below b
    replace p1 := p1.below b
    replace p2 := p2.below b
    replace p3 := p3.below b
    replace p4 := p4.below b
    replace hb := bstep hb b
    clear b
    clear b31 b32 b33 HI
    obtain ⟨p1c, p1d⟩ := p1.cells
    obtain ⟨p3c, p3d⟩ := p3.cells
    go_wp2_with fail
    refine (lequal_any iq if_).mono ?_
    rw [HAL.out]
    rintro e w40 ⟨rfl, b⟩
    have HE : Hid (Below w1.heap.size w1 w40) := bstep hb b
    clear b hb ia ib iq ir if_ is_ q0 q1 p1 p2 p3 p4 p1c p1d p3c p3d
    go_wp2_with fail
    go_ret
    exact ⟨rfl, HE.out⟩
end Go.Proofs.YtmcnpiajnehnlabDoor
