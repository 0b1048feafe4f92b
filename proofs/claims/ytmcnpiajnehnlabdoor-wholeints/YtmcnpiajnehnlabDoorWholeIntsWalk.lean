/-
  Proved here: WholeInts of any two numbers of 32 bits returns true, and writes nothing that was there.
-/
import Derived.Test.YtmcnpiajnehnlabDoorWholeInt
namespace Go.Proofs.YtmcnpiajnehnlabDoor
open Go.RowKit

theorem i32_bd {x : Int} (h : (Lit.int .i32 x).wf = true) : -2147483648 ≤ x ∧ x ≤ 2147483647 := by
  have h1 : IntKind.i32.min ≤ x ∧ x ≤ IntKind.i32.max := by simpa [Lit.wf] using h
  have e1 : IntKind.i32.min = -2147483648 := by decide
  have e2 : IntKind.i32.max = 2147483647 := by decide
  rw [e1, e2] at h1
  exact h1
theorem mul_bd {x y : Int} (h1 : -2147483648 ≤ x) (h2 : x ≤ 2147483647) (h3 : -2147483648 ≤ y) (h4 : y ≤ 2147483647) : -4611686018427387904 ≤ x * y ∧ x * y ≤ 4611686018427387904 := by
  have h5 : (x * y).natAbs ≤ 2147483648 * 2147483648 := by rw [Int.natAbs_mul]; exact Nat.mul_le_mul (by omega) (by omega)
  omega
theorem sz_small {z : Int} (h : z.natAbs < 18446744073709551616) : Sz z 2 := ⟨h⟩
set_option maxRecDepth 100000 in
set_option maxHeartbeats 12800000 in
theorem wholeInts_top (x y : Int) (w1 : World) (hx : (Lit.int .i32 x).wf = true) (hy : (Lit.int .i32 y).wf = true) :
    Calls Tryd.prog 7 #[.int .i32 x, .int .i32 y] w1 fun e w' => e = .returned (.bool true) ∧ Below w1.heap.size w1 w' := by
  obtain ⟨hx1, hx2⟩ := i32_bd hx
  obtain ⟨hy1, hy2⟩ := i32_bd hy
  clear hx hy
  have hb : Below w1.heap.size w1 w1 := Below.refl _ _
  obtain ⟨hm1, hm2⟩ := mul_bd hx1 hx2 hy1 hy2
  obtain ⟨p, hp⟩ : ∃ p, p = x * y := ⟨_, rfl⟩
  have HP : Hid (x * y = p) := hp.symm
  have hwm : IntKind.i64.wrap (x * y) = p := by rw [← hp] at hm1 hm2 ⊢; rw [IntKind.wrap_i64]; omega
  have hpp : (p != p) = false := by simp
  have sx : Sz x 2 := sz_small (by omega)
  have sy : Sz y 2 := sz_small (by omega)
  have sA : Sz (x + y) 2 := sz_small (by omega)
  have sB : Sz (x - y) 2 := sz_small (by omega)
  have sC : Sz p 2 := by rw [hp]; exact sz_small (by omega)
  rw [← hp] at hm1 hm2
  clear hp
  go_enter Tryd.func7, Tryd.ntmps7
  go_wp2_with fail
  refine (walive_yes _).mono ?_
  rintro e w2 ⟨rfl, b⟩
  replace hb := bstep hb b
  clear b
  go_wp2_with fail
  refine (c_of (n := x) (by omega) (by omega)).mono ?_
  rintro e w3 ⟨v, rfl, hv, b⟩
  obtain ⟨an, ao, al, ac, rfl, ia⟩ := hv.see sx (by decide)
  clear hv
  replace hb := bstep hb b
  clear b
  obtain ⟨W4, hW4⟩ : ∃ W, W = w3.alloc (.cells #[.bool an, .slice ao al ac] 25) := ⟨_, rfl⟩
  have q0 : ICell W4 w3.heap.size an (.slice ao al ac) := by rw [hW4]; exact icell_new _ rfl
  have b : Below w3.heap.size w3 W4 := by rw [hW4]; exact belowA _ _
  replace ia := ia.below b
  replace hb := bstep hb b
  clear b
  obtain ⟨v1, hv1⟩ : ∃ v, v = w3.heap.size := ⟨_, rfl⟩
  rw [← hv1] at q0
  have HW4 : Hid (W4 = w3.alloc (.cells #[.bool an, .slice ao al ac] 25)) := hW4
  have Hv1 : Hid (v1 = w3.heap.size) := hv1
  clear hW4 hv1
  go_wp2_with fail
  rw [← HW4.out, ← Hv1.out]
  clear HW4 Hv1
  refine (c_of (n := y) (by omega) (by omega)).mono ?_
  rintro e w5 ⟨v, rfl, hv, b⟩
  obtain ⟨bn, bo, bl, bc, rfl, ib⟩ := hv.see sy (by decide)
  clear hv
  replace ia := ia.below b
  replace q0 := q0.below b
  replace hb := bstep hb b
  clear b
  obtain ⟨W6, hW6⟩ : ∃ W, W = w5.alloc (.cells #[.bool bn, .slice bo bl bc] 25) := ⟨_, rfl⟩
  have q1 : ICell W6 w5.heap.size bn (.slice bo bl bc) := by rw [hW6]; exact icell_new _ rfl
  have b : Below w5.heap.size w5 W6 := by rw [hW6]; exact belowA _ _
  replace ia := ia.below b
  replace ib := ib.below b
  replace q0 := q0.below b
  replace hb := bstep hb b
  clear b
  have c0 : (w5.alloc (.cells #[.bool bn, .slice bo bl bc] 25)).cell? ⟨v1, 0, none⟩ = some (.bool an) := by rw [← hW6]; exact q0.cells.1
  have c1 : (w5.alloc (.cells #[.bool bn, .slice bo bl bc] 25)).cell? ⟨v1, 1, none⟩ = some (.slice ao al ac) := by rw [← hW6]; exact q0.cells.2
  obtain ⟨v2, hv2⟩ : ∃ v, v = w5.heap.size := ⟨_, rfl⟩
  rw [← hv2] at q1
  have HW6 : Hid (W6 = w5.alloc (.cells #[.bool bn, .slice bo bl bc] 25)) := hW6
  have Hv2 : Hid (v2 = w5.heap.size) := hv2
  clear hW6 hv2
  go_wp2_with fail
  rw [← HW6.out, ← Hv2.out]
  clear HW6 Hv2 c0 c1
  refine (c_add ia ib).mono ?_
  rintro e w7 ⟨v, rfl, hv, b⟩
  obtain ⟨dn, do_, dl, dc, rfl, id_⟩ := hv.see sA (by decide)
  clear hv
  replace ia := ia.below b
  replace ib := ib.below b
  replace q0 := q0.below b
  replace q1 := q1.below b
  replace hb := bstep hb b
  clear b
  go_wp2_with fail
  refine (c_int id_ (by omega) (by omega)).mono ?_
  rintro e w8 ⟨rfl, b⟩
  clear id_
  replace ia := ia.below b
  replace ib := ib.below b
  replace q0 := q0.below b
  replace q1 := q1.below b
  replace hb := bstep hb b
  clear b
  obtain ⟨q0c, q0d⟩ := q0.cells
  obtain ⟨q1c, q1d⟩ := q1.cells
  go_wp2_with fail
  clear q0c q0d q1c q1d
  refine (c_sub ia ib).mono ?_
  rintro e w9 ⟨v, rfl, hv, b⟩
  obtain ⟨dn, do_, dl, dc, rfl, id_⟩ := hv.see sB (by decide)
  clear hv
  replace ia := ia.below b
  replace ib := ib.below b
  replace q0 := q0.below b
  replace q1 := q1.below b
  replace hb := bstep hb b
  clear b
  go_wp2_with fail
  refine (c_int id_ (by omega) (by omega)).mono ?_
  rintro e w10 ⟨rfl, b⟩
  clear id_
  replace ia := ia.below b
  replace ib := ib.below b
  replace q0 := q0.below b
  replace q1 := q1.below b
  replace hb := bstep hb b
  clear b
  obtain ⟨q0c, q0d⟩ := q0.cells
  obtain ⟨q1c, q1d⟩ := q1.cells
  go_wp2_with fail
  clear q0c q0d q1c q1d
  refine (c_mul ia ib).mono ?_
  rw [HP.out]
  rintro e w11 ⟨v, rfl, hv, b⟩
  obtain ⟨dn, do_, dl, dc, rfl, id_⟩ := hv.see sC (by decide)
  clear hv
  replace ia := ia.below b
  replace ib := ib.below b
  replace q0 := q0.below b
  replace q1 := q1.below b
  replace hb := bstep hb b
  clear b
  go_wp2_with fail
  refine (c_int id_ (by omega) (by omega)).mono ?_
  rintro e w12 ⟨rfl, b⟩
  clear id_
  replace ia := ia.below b
  replace ib := ib.below b
  replace q0 := q0.below b
  replace q1 := q1.below b
  replace hb := bstep hb b
  clear b
  by_cases hy0 : y = 0
  · subst hy0
    have hp0 : p = 0 := by rw [← HP.out, Int.mul_zero]
    subst hp0
    have HE : Hid (Below w1.heap.size w1 w12) := hb
    clear hb ia ib q0 q1
    go_wp2_with fail
    go_ret
    exact ⟨rfl, HE.out⟩
  · have hy00 : (y == 0) = false := by simpa using hy0
    obtain ⟨Q, hQ⟩ : ∃ Q, x.tdiv y = Q := ⟨_, rfl⟩
    obtain ⟨R, hR⟩ : ∃ R, x.tmod y = R := ⟨_, rfl⟩
    have hQa : Q.natAbs ≤ 2147483648 := by rw [← hQ]; exact Nat.le_trans (tdiv_le x y) (by omega)
    have hRz : rz x y = R := by unfold rz; rw [if_neg hy0]; exact hR
    have hRa : R.natAbs ≤ 2147483648 := by rw [← hRz]; exact Nat.le_trans (rz_le x y) (by omega)
    have hQ1 : -2147483648 ≤ Q := by omega
    have hQ2 : Q ≤ 2147483648 := by omega
    have hR1 : -2147483648 ≤ R := by omega
    have hR2 : R ≤ 2147483648 := by omega
    have HQ : Hid (x.tdiv y = Q) := hQ
    have HRz : Hid (rz x y = R) := hRz
    have sQ : Sz Q 2 := sz_small (by omega)
    have sR : Sz R 2 := sz_small (by omega)
    clear hQa hRa hRz
    have HY0 : Hid (y ≠ 0) := hy0
    have HER : Hid (errZ y.natAbs = 0) := by show _ = _; unfold errZ; rw [if_neg (by omega)]
    obtain ⟨q0c, q0d⟩ := q0.cells
    obtain ⟨q1c, q1d⟩ := q1.cells
    go_wp2_with fail
    clear q0c q0d q1c q1d
    have hf := c_quo ia ib
    rw [HQ.out, HRz.out, HER.out] at hf
    refine hf.mono ?_
    rintro e w13 ⟨mq, mr, rfl, hq, hr, _, b⟩
    clear hf
    obtain ⟨qn, qo, ql, qc, hqn, rfl, iq⟩ := hq.see sQ (by decide)
    obtain ⟨rn, ro, rl, rc, hrn, rfl, ir⟩ := hr.see sR (by decide)
    rw [← hqn, ← hrn]
    clear hq hr hqn hrn
    replace ia := ia.below b
    replace ib := ib.below b
    replace q0 := q0.below b
    replace q1 := q1.below b
    replace hb := bstep hb b
    clear b
    obtain ⟨W14, hW14⟩ : ∃ W, W = (w13.alloc (.cells #[.bool qn, .slice qo ql qc] 25)).alloc (.cells #[.bool rn, .slice ro rl rc] 25) := ⟨_, rfl⟩
    have p1 : ICell W14 w13.heap.size qn (.slice qo ql qc) := by rw [hW14]; exact icell_step (icell_new _ rfl)
    have p2 : ICell W14 (w13.heap.size + 1) rn (.slice ro rl rc) := by rw [hW14]; exact icell_new _ (by simp)
    have b : Below w13.heap.size w13 W14 := by rw [hW14]; exact bstep (belowA _ _) (belowA _ _)
    replace ia := ia.below b
    replace ib := ib.below b
    replace iq := iq.below b
    replace ir := ir.below b
    replace q0 := q0.below b
    replace q1 := q1.below b
    replace hb := bstep hb b
    clear b
    have c0 : ((w13.alloc (.cells #[.bool qn, .slice qo ql qc] 25)).alloc (.cells #[.bool rn, .slice ro rl rc] 25)).cell? ⟨w13.heap.size, 0, none⟩ = some (.bool qn) := by rw [← hW14]; exact p1.cells.1
    have c1 : ((w13.alloc (.cells #[.bool qn, .slice qo ql qc] 25)).alloc (.cells #[.bool rn, .slice ro rl rc] 25)).cell? ⟨w13.heap.size, 1, none⟩ = some (.slice qo ql qc) := by rw [← hW14]; exact p1.cells.2
    obtain ⟨v3, hv3⟩ : ∃ v, v = w13.heap.size := ⟨_, rfl⟩
    rw [← hv3] at p1 p2
    have HW14 : Hid (W14 = (w13.alloc (.cells #[.bool qn, .slice qo ql qc] 25)).alloc (.cells #[.bool rn, .slice ro rl rc] 25)) := hW14
    have Hv3 : Hid (v3 = w13.heap.size) := hv3
    clear hW14 hv3
    go_wp2_with fail
    rw [← HW14.out, ← Hv3.out]
    clear HW14 Hv3 c0 c1
    refine (c_int iq (by omega) (by omega)).mono ?_
    rintro e w15 ⟨rfl, b⟩
    replace ia := ia.below b
    replace ib := ib.below b
    replace iq := iq.below b
    replace ir := ir.below b
    replace q0 := q0.below b
    replace q1 := q1.below b
    replace p1 := p1.below b
    replace p2 := p2.below b
    replace hb := bstep hb b
    clear b
    obtain ⟨p2c, p2d⟩ := p2.cells
    go_wp2_with fail
    clear p2c p2d
    refine (c_int ir (by omega) (by omega)).mono ?_
    rintro e w16 ⟨rfl, b⟩
    have HE : Hid (Below w1.heap.size w1 w16) := bstep hb b
    clear hb b ia ib iq ir q0 q1 p1 p2
    go_wp2_with fail
    go_ret
    exact ⟨rfl, HE.out⟩
end Go.Proofs.YtmcnpiajnehnlabDoor
