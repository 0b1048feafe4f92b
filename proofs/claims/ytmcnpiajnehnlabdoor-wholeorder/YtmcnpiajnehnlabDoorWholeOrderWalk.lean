/-
  Proved here: WholeOrder of any three numbers returns true, and writes nothing that was there.
-/
import Derived.Test.YtmcnpiajnehnlabDoorWholeX3
namespace Go.Proofs.YtmcnpiajnehnlabDoor
open Go.RowKit
attribute [local go_sem ↓] Go.wp_at_zero Go.wp_at_succ

set_option maxRecDepth 100000 in
set_option maxHeartbeats 12800000 in
theorem wholeOrder_top (na : Bool) (ao : Option Addr) (al ac : Nat) (xa : List Nat) (nb : Bool) (bo : Option Addr) (bl bc : Nat) (xb : List Nat) (nc : Bool) (co : Option Addr) (cl cc : Nat) (xc : List Nat) (w1 : World) (ua : Num w1 (.slice ao al ac) xa) (ub : Num w1 (.slice bo bl bc) xb) (uc : Num w1 (.slice co cl cc) xc) :
    Calls Tryd.prog 3 #[.agg #[.bool na, .slice ao al ac], .agg #[.bool nb, .slice bo bl bc], .agg #[.bool nc, .slice co cl cc]] w1 fun e w' => e = .returned (.bool true) ∧ Below w1.heap.size w1 w' := by
  obtain ⟨W1, hW1⟩ : ∃ W1, W1 = ((w1.alloc (.cells #[.bool na, .slice ao al ac] 25)).alloc (.cells #[.bool nb, .slice bo bl bc] 25)).alloc (.cells #[.bool nc, .slice co cl cc] 25) := ⟨_, rfl⟩
  have q0 : ICell W1 (w1.heap.size) na (.slice ao al ac) := by rw [hW1]; exact (icell_step (icell_step (icell_new _ (by simp))))
  have q1 : ICell W1 (w1.heap.size + 1) nb (.slice bo bl bc) := by rw [hW1]; exact (icell_step (icell_new _ (by simp)))
  have q2 : ICell W1 (w1.heap.size + 1 + 1) nc (.slice co cl cc) := by rw [hW1]; exact (icell_new _ (by simp))
  have hb : Below w1.heap.size w1 W1 := by rw [hW1]; exact bstep (bstep (belowA w1 _) (belowA _ _)) (belowA _ _)
  replace ua := ua.below (Nat.le_refl _) hb
  replace ub := ub.below (Nat.le_refl _) hb
  replace uc := uc.below (Nat.le_refl _) hb
  have HW1 : Hid (W1 = ((w1.alloc (.cells #[.bool na, .slice ao al ac] 25)).alloc (.cells #[.bool nb, .slice bo bl bc] 25)).alloc (.cells #[.bool nc, .slice co cl cc] 25)) := hW1
  clear hW1
  obtain ⟨g, hg⟩ : ∃ g, g = w1.heap.size := ⟨_, rfl⟩
  rw [← hg] at q0 q1 q2
  have HG : Hid (g = w1.heap.size) := hg
  go_enter Tryd.func3, Tryd.ntmps3
  go_wp2_with fail
  rw [← HW1.out, ← hg]
  clear HW1 hg
  refine (walive_yes _).mono ?_
  rintro e w2 ⟨rfl, b⟩
  replace q0 := q0.below b
  replace q1 := q1.below b
  replace q2 := q2.below b
  replace hb := bstep hb b
  replace ua := ua.below (Nat.le_refl _) b
  replace ub := ub.below (Nat.le_refl _) b
  replace uc := uc.below (Nat.le_refl _) b
  clear b
  obtain ⟨c0, d0⟩ := q0.cells
  go_wp2_with fail
  refine (lbig_any _ _ _ _ _).mono ?_
  rintro e w3 ⟨rfl, b⟩
  clear c0 d0
  replace q0 := q0.below b
  replace q1 := q1.below b
  replace q2 := q2.below b
  replace hb := bstep hb b
  replace ua := ua.below (Nat.le_refl _) b
  replace ub := ub.below (Nat.le_refl _) b
  replace uc := uc.below (Nat.le_refl _) b
  clear b
  by_cases ta : 30 < al
  · rw [decide_eq_true ta]
    have HE : Hid (Below w1.heap.size w1 w3) := hb
    clear hb ua ub uc q0 q1 q2
    go_wp2_with fail
    go_ret
    exact ⟨rfl, HE.out⟩
  rw [decide_eq_false ta]
  obtain ⟨c1, d1⟩ := q1.cells
  go_wp2_with fail
  refine (lbig_any _ _ _ _ _).mono ?_
  rintro e w4 ⟨rfl, b⟩
  clear c1 d1
  replace q0 := q0.below b
  replace q1 := q1.below b
  replace q2 := q2.below b
  replace hb := bstep hb b
  replace ua := ua.below (Nat.le_refl _) b
  replace ub := ub.below (Nat.le_refl _) b
  replace uc := uc.below (Nat.le_refl _) b
  clear b
  by_cases tb : 30 < bl
  · rw [decide_eq_true tb]
    have HE : Hid (Below w1.heap.size w1 w4) := hb
    clear hb ua ub uc q0 q1 q2
    go_wp2_with fail
    go_ret
    exact ⟨rfl, HE.out⟩
  rw [decide_eq_false tb]
  obtain ⟨c2, d2⟩ := q2.cells
  go_wp2_with fail
  refine (lbig_any _ _ _ _ _).mono ?_
  rintro e w5 ⟨rfl, b⟩
  clear c2 d2
  replace q0 := q0.below b
  replace q1 := q1.below b
  replace q2 := q2.below b
  replace hb := bstep hb b
  replace ua := ua.below (Nat.le_refl _) b
  replace ub := ub.below (Nat.le_refl _) b
  replace uc := uc.below (Nat.le_refl _) b
  clear b
  by_cases tc : 30 < cl
  · rw [decide_eq_true tc]
    have HE : Hid (Below w1.heap.size w1 w5) := hb
    clear hb ua ub uc q0 q1 q2
    go_wp2_with fail
    go_ret
    exact ⟨rfl, HE.out⟩
  rw [decide_eq_false tc]
  obtain ⟨ia, sa⟩ := few (n := na) ua ta
  clear ua ta
  obtain ⟨A, hA⟩ : ∃ z, z = zv na (val xa) := ⟨_, rfl⟩
  rw [← hA] at ia sa
  clear hA
  obtain ⟨ib, sb⟩ := few (n := nb) ub tb
  clear ub tb
  obtain ⟨B, hB⟩ : ∃ z, z = zv nb (val xb) := ⟨_, rfl⟩
  rw [← hB] at ib sb
  clear hB
  obtain ⟨ic, sc⟩ := few (n := nc) uc tc
  clear uc tc
  obtain ⟨C, hC⟩ : ∃ z, z = zv nc (val xc) := ⟨_, rfl⟩
  rw [← hC] at ic sc
  clear hC
  obtain ⟨n, hn⟩ : ∃ n, n = cmpZ A B := ⟨_, rfl⟩
  have HN : Hid (n = cmpZ A B) := hn
  have hnb : -1 ≤ n ∧ n ≤ 1 := by rw [hn]; rcases cmpZ_bd A B with h | h | h <;> rw [h] <;> decide
  obtain ⟨hn1, hn2⟩ := hnb
  clear hn
  obtain ⟨m, hm⟩ : ∃ m, m = cmpZ B A := ⟨_, rfl⟩
  have HM : Hid (m = cmpZ B A) := hm
  have hmn : -m = n := by rw [hm, HN.out, cmpZ_swap A B]; omega
  have hm1 : -1 ≤ m := by omega
  have hm2 : m ≤ 1 := by omega
  clear hm
  obtain ⟨s, hs⟩ : ∃ s, s = cmpZ C 0 := ⟨_, rfl⟩
  have HS : Hid (cmpZ C 0 = s) := hs.symm
  obtain ⟨p, hp⟩ : ∃ p, p = n * s := ⟨_, rfl⟩
  have HP : Hid (cmpZ (A * C) (B * C) = p) := by show _ = _; rw [hp, hs, HN.out, cmpZ_mulz]
  have hpb : -1 ≤ p ∧ p ≤ 1 := by rw [← HP.out]; rcases cmpZ_bd (A * C) (B * C) with h | h | h <;> rw [h] <;> decide
  have hw : IntKind.i64.wrap (n * s) = p := by rw [← hp, IntKind.wrap_i64]; omega
  clear hs hp hpb
  have hnn : (n != n) = false := by simp
  have hne : (n == n) = true := by simp
  have hpe : (p == p) = true := by simp
  have sAC := sa.mul sc
  have sBC := sb.mul sc
  have sAc := sa.add sc
  have sBc := sb.add sc
  have sAB := sa.sub sb
  obtain ⟨q0c, q0d⟩ := q0.cells
  obtain ⟨q1c, q1d⟩ := q1.cells
  obtain ⟨q2c, q2d⟩ := q2.cells
  go_wp2_with fail
  refine (c_cmp ia ib).mono ?_
  rw [← HN.out]
  rintro e w10 ⟨rfl, b⟩
  clear q0c q0d q1c q1d q2c q2d
  replace ia := ia.below b
  replace ib := ib.below b
  replace ic := ic.below b
  replace q0 := q0.below b
  replace q1 := q1.below b
  replace q2 := q2.below b
  replace hb := bstep hb b
  clear b
  obtain ⟨q0c, q0d⟩ := q0.cells
  obtain ⟨q1c, q1d⟩ := q1.cells
  obtain ⟨q2c, q2d⟩ := q2.cells
  go_wp2_with fail
  refine (c_sub ia ib).mono ?_
  rintro e w11 ⟨v, rfl, hv, b⟩
  obtain ⟨dn, do_, dl, dc, rfl, id_⟩ := hv.see sAB (by decide)
  clear hv
  clear q0c q0d q1c q1d q2c q2d
  replace ia := ia.below b
  replace ib := ib.below b
  replace ic := ic.below b
  replace q0 := q0.below b
  replace q1 := q1.below b
  replace q2 := q2.below b
  replace hb := bstep hb b
  clear b
  obtain ⟨q0c, q0d⟩ := q0.cells
  obtain ⟨q1c, q1d⟩ := q1.cells
  obtain ⟨q2c, q2d⟩ := q2.cells
  go_wp2_with fail
  refine (c_sign id_).mono ?_
  rw [cmpZ_sub, ← HN.out]
  rintro e w12 ⟨rfl, b⟩
  clear q0c q0d q1c q1d q2c q2d
  replace ia := ia.below b
  replace ib := ib.below b
  replace ic := ic.below b
  replace id_ := id_.below b
  replace q0 := q0.below b
  replace q1 := q1.below b
  replace q2 := q2.below b
  replace hb := bstep hb b
  clear b
  clear id_
  obtain ⟨q0c, q0d⟩ := q0.cells
  obtain ⟨q1c, q1d⟩ := q1.cells
  obtain ⟨q2c, q2d⟩ := q2.cells
  go_wp2_with fail
  refine (c_cmp ib ia).mono ?_
  rw [← HM.out]
  rintro e w13 ⟨rfl, b⟩
  clear q0c q0d q1c q1d q2c q2d
  replace ia := ia.below b
  replace ib := ib.below b
  replace ic := ic.below b
  replace q0 := q0.below b
  replace q1 := q1.below b
  replace q2 := q2.below b
  replace hb := bstep hb b
  clear b
  obtain ⟨q0c, q0d⟩ := q0.cells
  obtain ⟨q1c, q1d⟩ := q1.cells
  obtain ⟨q2c, q2d⟩ := q2.cells
  go_wp2_with fail
  have HI : Hid (INum w13.drew (.agg #[.bool na, .slice ao al ac]) A ∧ INum w13.drew (.agg #[.bool nb, .slice bo bl bc]) B ∧ INum w13.drew (.agg #[.bool nc, .slice co cl cc]) C) := ⟨ia.below (below_drew' _), ib.below (below_drew' _), ic.below (below_drew' _)⟩
  go_region_held3 (fun w' => w'.cell? ⟨g, 0, none⟩ = some (.bool na) ∧ w'.cell? ⟨g, 1, none⟩ = some (.slice ao al ac) ∧ w'.cell? ⟨g + 1, 0, none⟩ = some (.bool nb) ∧ w'.cell? ⟨g + 1, 1, none⟩ = some (.slice bo bl bc) ∧ w'.cell? ⟨g + 1 + 1, 0, none⟩ = some (.bool nc) ∧ w'.cell? ⟨g + 1 + 1, 1, none⟩ = some (.slice co cl cc)) (((try dsimp only); go_split_ands; refine ⟨?_, ?_, ?_, ?_, ?_, ?_⟩ <;> first | exact keepB (by with_reducible assumption) (by with_reducible assumption) | go_keep)) (first
    | (go_at_call_of 13 ao; refine (c_add HI.out.1 HI.out.2.2).mono ?_; rintro e w14 ⟨v, rfl, hv, b14⟩; obtain ⟨en, eo, el, ec, rfl, ie⟩ := hv.see sAc (by decide); clear hv)
    | (go_at_call_of 13 bo; refine (c_add (HI.out.2.1.below b14) (HI.out.2.2.below b14)).mono ?_; rintro e w15 ⟨v, rfl, hv, b15⟩; obtain ⟨fn, fo, fl, fc, rfl, if_⟩ := hv.see sBc (by decide); clear hv)
    | (go_at_call 10; refine (c_cmp (ie.below b15) if_).mono ?_; rw [cmpZ_add, ← HN.out]; rintro e w16 ⟨rfl, b16⟩))
  have b := bstep (below_drew' w13) (bstep b14 (bstep b15 b16))
  clear q0c q0d q1c q1d q2c q2d
  replace ia := ia.below b
  replace ib := ib.below b
  replace ic := ic.below b
  replace q0 := q0.below b
  replace q1 := q1.below b
  replace q2 := q2.below b
  replace hb := bstep hb b
  clear b
  clear ie if_ b14 b15 b16 HI
  obtain ⟨q0c, q0d⟩ := q0.cells
  obtain ⟨q1c, q1d⟩ := q1.cells
  obtain ⟨q2c, q2d⟩ := q2.cells
  go_wp2_with fail
  have HI : Hid (INum w16.drew (.agg #[.bool na, .slice ao al ac]) A ∧ INum w16.drew (.agg #[.bool nb, .slice bo bl bc]) B ∧ INum w16.drew (.agg #[.bool nc, .slice co cl cc]) C) := ⟨ia.below (below_drew' _), ib.below (below_drew' _), ic.below (below_drew' _)⟩
  go_region_held3 (fun w' => w'.cell? ⟨g, 0, none⟩ = some (.bool na) ∧ w'.cell? ⟨g, 1, none⟩ = some (.slice ao al ac) ∧ w'.cell? ⟨g + 1, 0, none⟩ = some (.bool nb) ∧ w'.cell? ⟨g + 1, 1, none⟩ = some (.slice bo bl bc) ∧ w'.cell? ⟨g + 1 + 1, 0, none⟩ = some (.bool nc) ∧ w'.cell? ⟨g + 1 + 1, 1, none⟩ = some (.slice co cl cc)) (((try dsimp only); go_split_ands; refine ⟨?_, ?_, ?_, ?_, ?_, ?_⟩ <;> first | exact keepB (by with_reducible assumption) (by with_reducible assumption) | go_keep)) (first
    | (go_at_call_of 14 ao; refine (c_mul HI.out.1 HI.out.2.2).mono ?_; rintro e w17 ⟨v, rfl, hv, b17⟩; obtain ⟨en, eo, el, ec, rfl, ie⟩ := hv.see sAC (by decide); clear hv)
    | (go_at_call_of 14 bo; refine (c_mul (HI.out.2.1.below b17) (HI.out.2.2.below b17)).mono ?_; rintro e w18 ⟨v, rfl, hv, b18⟩; obtain ⟨fn, fo, fl, fc, rfl, if_⟩ := hv.see sBC (by decide); clear hv)
    | (go_at_call 10; refine (c_cmp (ie.below b18) if_).mono ?_; rw [HP.out]; rintro e w19 ⟨rfl, b19⟩)
    | (go_at_call 11; refine (c_sign (((HI.out.2.2.below b17).below b18).below b19)).mono ?_; rw [HS.out]; rintro e w20 ⟨rfl, b20⟩))
  have HE : Hid (Below w1.heap.size w1 w20) := bstep hb (bstep (below_drew' w16) (bstep b17 (bstep b18 (bstep b19 b20))))
  clear q0c q0d q1c q1d q2c q2d
  clear hb b17 b18 b19 b20 ie if_ ia ib ic q0 q1 q2 HI
  go_wp2_with fail
  go_ret
  exact ⟨rfl, HE.out⟩
end Go.Proofs.YtmcnpiajnehnlabDoor
