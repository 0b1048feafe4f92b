/-
  Proved here: WholeBezout of any two numbers returns true, and writes nothing that was there.
-/
import Derived.Test.YtmcnpiajnehnlabDoorBezMath
import Derived.Test.YtmcnpiajnehnlabDoorWholeSize
namespace Go.Proofs.YtmcnpiajnehnlabDoor
open Go.RowKit

theorem cmp_le {x y : Nat} (h : x ≤ y) : cmpZ (x : Int) (y : Int) ≤ 0 := by unfold cmpZ; repeat' split; all_goals omega
theorem cmp_no {x y : Nat} (h : ¬ x ≤ y) : cmpZ (x : Int) (y : Int) = 1 := cmpZ_gt (by omega)

set_option maxRecDepth 100000 in
set_option maxHeartbeats 12800000 in
theorem wholeBezout_top (na : Bool) (ao : Option Addr) (al ac : Nat) (xa : List Nat) (nb : Bool) (bo : Option Addr) (bl bc : Nat) (xb : List Nat) (w1 : World) (ua : Num w1 (.slice ao al ac) xa) (ub : Num w1 (.slice bo bl bc) xb) :
    Calls Tryd.prog 5 #[.agg #[.bool na, .slice ao al ac], .agg #[.bool nb, .slice bo bl bc]] w1 fun e w' => e = .returned (.bool true) ∧ Below w1.heap.size w1 w' := by
  obtain ⟨W1, hW1⟩ : ∃ W1, W1 = (w1.alloc (.cells #[.bool na, .slice ao al ac] 25)).alloc (.cells #[.bool nb, .slice bo bl bc] 25) := ⟨_, rfl⟩
  have q0 : ICell W1 (w1.heap.size) na (.slice ao al ac) := by rw [hW1]; exact (icell_step (icell_new _ (by simp)))
  have q1 : ICell W1 (w1.heap.size + 1) nb (.slice bo bl bc) := by rw [hW1]; exact (icell_new _ (by simp))
  have hb : Below w1.heap.size w1 W1 := by rw [hW1]; exact bstep (belowA w1 _) (belowA _ _)
  replace ua := ua.below (Nat.le_refl _) hb
  replace ub := ub.below (Nat.le_refl _) hb
  have HW1 : Hid (W1 = (w1.alloc (.cells #[.bool na, .slice ao al ac] 25)).alloc (.cells #[.bool nb, .slice bo bl bc] 25)) := hW1
  clear hW1
  obtain ⟨g, hg⟩ : ∃ g, g = w1.heap.size := ⟨_, rfl⟩
  rw [← hg] at q0 q1
  have HG : Hid (g = w1.heap.size) := hg
  go_enter Tryd.func5, Tryd.ntmps5
  go_wp2_with fail
  rw [← HW1.out, ← hg]
  clear HW1 hg
  refine (walive_yes _).mono ?_
  rintro e w2 ⟨rfl, b⟩
  replace q0 := q0.below b
  replace q1 := q1.below b
  replace hb := bstep hb b
  replace ua := ua.below (Nat.le_refl _) b
  replace ub := ub.below (Nat.le_refl _) b
  clear b
  obtain ⟨c0, d0⟩ := q0.cells
  go_wp2_with fail
  refine (lbig_any _ _ _ _ _).mono ?_
  rintro e w3 ⟨rfl, b⟩
  clear c0 d0
  replace q0 := q0.below b
  replace q1 := q1.below b
  replace hb := bstep hb b
  replace ua := ua.below (Nat.le_refl _) b
  replace ub := ub.below (Nat.le_refl _) b
  clear b
  by_cases ta : 30 < al
  · rw [decide_eq_true ta]
    have HE : Hid (Below w1.heap.size w1 w3) := hb
    clear hb ua ub q0 q1
    go_wp2_with fail
    go_ret
    exact ⟨rfl, HE.out⟩
  rw [decide_eq_false ta]
  obtain ⟨c1, d1⟩ := q1.cells
  go_wp2_with fail
  refine (lbig_any _ _ _ _ _).mono ?_
  rintro e w4 ⟨rfl, b⟩
  clear c1 d1
  replace q0 := q0.below b
  replace q1 := q1.below b
  replace hb := bstep hb b
  replace ua := ua.below (Nat.le_refl _) b
  replace ub := ub.below (Nat.le_refl _) b
  clear b
  by_cases tb : 30 < bl
  · rw [decide_eq_true tb]
    have HE : Hid (Below w1.heap.size w1 w4) := hb
    clear hb ua ub q0 q1
    go_wp2_with fail
    go_ret
    exact ⟨rfl, HE.out⟩
  rw [decide_eq_false tb]
  obtain ⟨ia, sa⟩ := few (n := na) ua ta
  clear ua ta
  obtain ⟨A, hA⟩ : ∃ z, z = zv na (val xa) := ⟨_, rfl⟩
  rw [← hA] at ia sa
  clear hA
  obtain ⟨ib, sb⟩ := few (n := nb) ub tb
  clear ub tb
  obtain ⟨B, hB⟩ : ∃ z, z = zv nb (val xb) := ⟨_, rfl⟩
  rw [← hB] at ib sb
  clear hB
  have hz := bez_all A B
  have hs := bez_sz sa sb
  have hf := c_bezout ia ib (IBx A.natAbs B.natAbs) (IB_start (by omega) (by omega)) (fun _ _ _ _ _ _ h hr => IB_step h hr) (IB_sz sa sb)
  obtain ⟨BZ, hBZ⟩ : ∃ BZ : Int × Int × Int, BZ = bz A.natAbs 1 0 B.natAbs 0 1 := ⟨_, rfl⟩
  rw [← hBZ] at hz hs hf
  clear hBZ
  obtain ⟨G, S, T⟩ := BZ
  replace hz : Bez A B G S T := hz
  have sg : Sz G 400000 := hs.1
  obtain ⟨X, hX⟩ : ∃ X, X = if A < 0 then -S else S := ⟨_, rfl⟩
  obtain ⟨Y, hY⟩ : ∃ Y, Y = if B < 0 then -T else T := ⟨_, rfl⟩
  have sX : Sz X 400000 := ⟨by rw [hX, abs_side]; exact hs.2.1.lt⟩
  have sY : Sz Y 400000 := ⟨by rw [hY, abs_side]; exact hs.2.2.lt⟩
  have HXA : Hid (X.natAbs = S.natAbs) := by show _ = _; rw [hX, abs_side]
  have HYA : Hid (Y.natAbs = T.natAbs) := by show _ = _; rw [hY, abs_side]
  have HMK : Hid (A * X + B * Y = G) := by show _ = _; rw [hX, hY]; exact hz.mak
  have HBZ : Hid (Bez A B G S T) := hz
  have HX : Hid (X = if A < 0 then -S else S) := hX
  have HY : Hid (Y = if B < 0 then -T else T) := hY
  clear hX hY hz hs
  obtain ⟨q0c, q0d⟩ := q0.cells
  obtain ⟨q1c, q1d⟩ := q1.cells
  go_wp2_with fail
  clear q0c q0d q1c q1d
  refine hf.mono ?_
  rintro e w10 ⟨mg, vx, vy, gs, rfl, ng, lg, vg, kx, ky, b⟩
  clear hf
  obtain ⟨go, gc, rfl, _, _⟩ := ng.ao
  have ig : INum w10 (.agg #[.bool false, .slice go gs.length gc]) G := ⟨false, go, gs.length, gc, gs, rfl, ng, lg, by have h0 := HBZ.out.g0; rw [vg]; show ((G.natAbs : Nat) : Int) = G; omega⟩
  obtain ⟨gl, hgl⟩ : ∃ gl, gl = gs.length := ⟨_, rfl⟩
  rw [← hgl] at ig ⊢
  clear ng lg vg hgl
  have jx : INum w10 vx X := by rw [HX.out]; exact kx
  have jy : INum w10 vy Y := by rw [HY.out]; exact ky
  obtain ⟨xn, xo, xl, xc, rfl, ix⟩ := jx.see
  obtain ⟨yn, yo, yl, yc, rfl, iy⟩ := jy.see
  clear kx ky jx jy HX HY
  replace ia := ia.below b
  replace ib := ib.below b
  replace q0 := q0.below b
  replace q1 := q1.below b
  replace hb := bstep hb b
  clear b
  obtain ⟨W11, hW11⟩ : ∃ W, W = ((w10.alloc (.cells #[.bool xn, .slice xo xl xc] 25)).alloc (.cells #[.bool yn, .slice yo yl yc] 25)).alloc (.cells #[.bool false, .slice go gl gc] 25) := ⟨_, rfl⟩
  have p1 : ICell W11 (w10.heap.size) xn (.slice xo xl xc) := by rw [hW11]; exact (icell_step (icell_step (icell_new _ rfl)))
  have p2 : ICell W11 (w10.heap.size + 1) yn (.slice yo yl yc) := by rw [hW11]; exact (icell_step (icell_new _ (by simp)))
  have p3 : ICell W11 (w10.heap.size + 1 + 1) false (.slice go gl gc) := by rw [hW11]; exact (icell_new _ (by simp))
  have b : Below w10.heap.size w10 W11 := by rw [hW11]; exact bstep (bstep (belowA _ _) (belowA _ _)) (belowA _ _)
  replace ia := ia.below b
  replace ib := ib.below b
  replace ig := ig.below b
  replace ix := ix.below b
  replace iy := iy.below b
  replace q0 := q0.below b
  replace q1 := q1.below b
  replace hb := bstep hb b
  clear b
  obtain ⟨v1, hv1⟩ : ∃ v, v = w10.heap.size := ⟨_, rfl⟩
  rw [← hv1] at p1 p2 p3
  have HW11 : Hid (W11 = ((w10.alloc (.cells #[.bool xn, .slice xo xl xc] 25)).alloc (.cells #[.bool yn, .slice yo yl yc] 25)).alloc (.cells #[.bool false, .slice go gl gc] 25)) := hW11
  have Hv1 : Hid (v1 = w10.heap.size) := hv1
  clear hW11 hv1
  go_wp2_with fail
  rw [← HW11.out, ← Hv1.out]
  clear HW11 Hv1 
  have zm38 : Sz (A * X) 400030 := sa.mul sX
  have zm41 : Sz (B * Y) 400030 := sb.mul sY
  have zm42 : Sz ((A * X) + (B * Y)) 400031 := (zm38.mono (by decide) : Sz _ 400030).add (zm41.mono (by decide) : Sz _ 400030)
  have Hb24 : Hid (decide ((A * X) + (B * Y) = G) = true) := decide_eq_true (HMK.out)
  refine region_late [(0, fun w' => w'.cell? ⟨g, 0, none⟩ = some (.bool na) ∧ w'.cell? ⟨g, 1, none⟩ = some (.slice ao al ac)), (1, fun w' => w'.cell? ⟨v1, 0, none⟩ = some (.bool xn) ∧ w'.cell? ⟨v1, 1, none⟩ = some (.slice xo xl xc)), (3, fun w' => w'.cell? ⟨g + 1, 0, none⟩ = some (.bool nb) ∧ w'.cell? ⟨g + 1, 1, none⟩ = some (.slice bo bl bc)), (4, fun w' => w'.cell? ⟨v1 + 1, 0, none⟩ = some (.bool yn) ∧ w'.cell? ⟨v1 + 1, 1, none⟩ = some (.slice yo yl yc)), (7, fun w' => w'.cell? ⟨v1 + 1 + 1, 0, none⟩ = some (.bool false) ∧ w'.cell? ⟨v1 + 1 + 1, 1, none⟩ = some (.slice go gl gc))] (by kernel_rfl) ?_
  have hHeld : AllL W11.drew [(0, fun w' => w'.cell? ⟨g, 0, none⟩ = some (.bool na) ∧ w'.cell? ⟨g, 1, none⟩ = some (.slice ao al ac)), (1, fun w' => w'.cell? ⟨v1, 0, none⟩ = some (.bool xn) ∧ w'.cell? ⟨v1, 1, none⟩ = some (.slice xo xl xc)), (3, fun w' => w'.cell? ⟨g + 1, 0, none⟩ = some (.bool nb) ∧ w'.cell? ⟨g + 1, 1, none⟩ = some (.slice bo bl bc)), (4, fun w' => w'.cell? ⟨v1 + 1, 0, none⟩ = some (.bool yn) ∧ w'.cell? ⟨v1 + 1, 1, none⟩ = some (.slice yo yl yc)), (7, fun w' => w'.cell? ⟨v1 + 1 + 1, 0, none⟩ = some (.bool false) ∧ w'.cell? ⟨v1 + 1 + 1, 1, none⟩ = some (.slice go gl gc))] := ⟨(show ICell W11.drew (g) na (.slice ao al ac) from q0).cells, (show ICell W11.drew (v1) xn (.slice xo xl xc) from p1).cells, (show ICell W11.drew (g + 1) nb (.slice bo bl bc) from q1).cells, (show ICell W11.drew (v1 + 1) yn (.slice yo yl yc) from p2).cells, (show ICell W11.drew (v1 + 1 + 1) false (.slice go gl gc) from p3).cells, trivial⟩
  refine late_take 0 (v := .agg #[.bool na, .slice ao al ac]) rfl (by kernel_rfl) (List.Mem.head _) (by kernel_rfl) (by kernel_rfl) (by kernel_rfl) (by kernel_rfl) (fun _ _ _ h => h) (Or.inl ⟨by rfl, ?_⟩) hHeld ?_
  · (intro u hu; (try dsimp only at hu); go_split_ands; go_simp)
  (try simp only [Act.put, List.setIfInBounds_toArray, List.set_cons_zero, List.set_cons_succ])
  refine late_take 1 (v := .agg #[.bool xn, .slice xo xl xc]) rfl (by kernel_rfl) (List.Mem.tail _ (List.Mem.head _)) (by kernel_rfl) (by kernel_rfl) (by kernel_rfl) (by kernel_rfl) (fun _ _ _ h => h) (Or.inl ⟨by rfl, ?_⟩) hHeld ?_
  · (intro u hu; (try dsimp only at hu); go_split_ands; go_simp)
  (try simp only [Act.put, List.setIfInBounds_toArray, List.set_cons_zero, List.set_cons_succ])
  refine late_take 3 (v := .agg #[.bool nb, .slice bo bl bc]) rfl (by kernel_rfl) (List.Mem.tail _ (List.Mem.tail _ (List.Mem.head _))) (by kernel_rfl) (by kernel_rfl) (by kernel_rfl) (by kernel_rfl) (fun _ _ _ h => h) (Or.inl ⟨by rfl, ?_⟩) hHeld ?_
  · (intro u hu; (try dsimp only at hu); go_split_ands; go_simp)
  (try simp only [Act.put, List.setIfInBounds_toArray, List.set_cons_zero, List.set_cons_succ])
  refine late_take 4 (v := .agg #[.bool yn, .slice yo yl yc]) rfl (by kernel_rfl) (List.Mem.tail _ (List.Mem.tail _ (List.Mem.tail _ (List.Mem.head _)))) (by kernel_rfl) (by kernel_rfl) (by kernel_rfl) (by kernel_rfl) (fun _ _ _ h => h) (Or.inl ⟨by rfl, ?_⟩) hHeld ?_
  · (intro u hu; (try dsimp only at hu); go_split_ands; go_simp)
  (try simp only [Act.put, List.setIfInBounds_toArray, List.set_cons_zero, List.set_cons_succ])
  refine late_take 7 (v := .agg #[.bool false, .slice go gl gc]) rfl (by kernel_rfl) (List.Mem.tail _ (List.Mem.tail _ (List.Mem.tail _ (List.Mem.tail _ (List.Mem.head _))))) (by kernel_rfl) (by kernel_rfl) (by kernel_rfl) (by kernel_rfl) (fun _ _ _ h => h) (Or.inl ⟨by rfl, ?_⟩) hHeld ?_
  · (intro u hu; (try dsimp only at hu); go_split_ands; go_simp)
  (try simp only [Act.put, List.setIfInBounds_toArray, List.set_cons_zero, List.set_cons_succ])
  refine late_step 2 (by kernel_rfl) rfl (fun K hK => ?_)
  go_simp
  refine (c_mul (ia.below (below_drew' _)) (ix.below (below_drew' _))).mono ?_
  rintro e w21 ⟨v, rfl, hv, b21⟩
  obtain ⟨m38n, m38o, m38l, m38c, rfl, im38⟩ := hv.see zm38 (by decide)
  clear hv
  have B21 : Below W11.heap.size W11 w21 := bstep (below_drew' _) b21
  clear hHeld
  have hHeld : AllL w21 [(0, fun w' => w'.cell? ⟨g, 0, none⟩ = some (.bool na) ∧ w'.cell? ⟨g, 1, none⟩ = some (.slice ao al ac)), (1, fun w' => w'.cell? ⟨v1, 0, none⟩ = some (.bool xn) ∧ w'.cell? ⟨v1, 1, none⟩ = some (.slice xo xl xc)), (3, fun w' => w'.cell? ⟨g + 1, 0, none⟩ = some (.bool nb) ∧ w'.cell? ⟨g + 1, 1, none⟩ = some (.slice bo bl bc)), (4, fun w' => w'.cell? ⟨v1 + 1, 0, none⟩ = some (.bool yn) ∧ w'.cell? ⟨v1 + 1, 1, none⟩ = some (.slice yo yl yc)), (7, fun w' => w'.cell? ⟨v1 + 1 + 1, 0, none⟩ = some (.bool false) ∧ w'.cell? ⟨v1 + 1 + 1, 1, none⟩ = some (.slice go gl gc))] := ⟨(q0.below B21).cells, (p1.below B21).cells, (q1.below B21).cells, (p2.below B21).cells, (p3.below B21).cells, trivial⟩
  go_wp2_with fail
  refine hK.out _ _ (AllL.kept hHeld) ?_
  clear hK K
  (try simp only [Act.put, List.setIfInBounds_toArray, List.set_cons_zero, List.set_cons_succ])
  refine late_step 5 (by kernel_rfl) rfl (fun K hK => ?_)
  go_simp
  refine (c_mul ((ib.below (below_drew' _)).below b21) ((iy.below (below_drew' _)).below b21)).mono ?_
  rintro e w22 ⟨v, rfl, hv, b22⟩
  obtain ⟨m41n, m41o, m41l, m41c, rfl, im41⟩ := hv.see zm41 (by decide)
  clear hv
  have B22 : Below W11.heap.size W11 w22 := bstep B21 b22
  clear hHeld
  have hHeld : AllL w22 [(0, fun w' => w'.cell? ⟨g, 0, none⟩ = some (.bool na) ∧ w'.cell? ⟨g, 1, none⟩ = some (.slice ao al ac)), (1, fun w' => w'.cell? ⟨v1, 0, none⟩ = some (.bool xn) ∧ w'.cell? ⟨v1, 1, none⟩ = some (.slice xo xl xc)), (3, fun w' => w'.cell? ⟨g + 1, 0, none⟩ = some (.bool nb) ∧ w'.cell? ⟨g + 1, 1, none⟩ = some (.slice bo bl bc)), (4, fun w' => w'.cell? ⟨v1 + 1, 0, none⟩ = some (.bool yn) ∧ w'.cell? ⟨v1 + 1, 1, none⟩ = some (.slice yo yl yc)), (7, fun w' => w'.cell? ⟨v1 + 1 + 1, 0, none⟩ = some (.bool false) ∧ w'.cell? ⟨v1 + 1 + 1, 1, none⟩ = some (.slice go gl gc))] := ⟨(q0.below B22).cells, (p1.below B22).cells, (q1.below B22).cells, (p2.below B22).cells, (p3.below B22).cells, trivial⟩
  go_wp2_with fail
  refine hK.out _ _ (AllL.kept hHeld) ?_
  clear hK K
  (try simp only [Act.put, List.setIfInBounds_toArray, List.set_cons_zero, List.set_cons_succ])
  refine late_step 6 (by kernel_rfl) rfl (fun K hK => ?_)
  go_simp
  refine (c_add (im38.below b22) im41).mono ?_
  rintro e w23 ⟨v, rfl, hv, b23⟩
  obtain ⟨m42n, m42o, m42l, m42c, rfl, im42⟩ := hv.see zm42 (by decide)
  clear hv
  have B23 : Below W11.heap.size W11 w23 := bstep B22 b23
  clear hHeld
  have hHeld : AllL w23 [(0, fun w' => w'.cell? ⟨g, 0, none⟩ = some (.bool na) ∧ w'.cell? ⟨g, 1, none⟩ = some (.slice ao al ac)), (1, fun w' => w'.cell? ⟨v1, 0, none⟩ = some (.bool xn) ∧ w'.cell? ⟨v1, 1, none⟩ = some (.slice xo xl xc)), (3, fun w' => w'.cell? ⟨g + 1, 0, none⟩ = some (.bool nb) ∧ w'.cell? ⟨g + 1, 1, none⟩ = some (.slice bo bl bc)), (4, fun w' => w'.cell? ⟨v1 + 1, 0, none⟩ = some (.bool yn) ∧ w'.cell? ⟨v1 + 1, 1, none⟩ = some (.slice yo yl yc)), (7, fun w' => w'.cell? ⟨v1 + 1 + 1, 0, none⟩ = some (.bool false) ∧ w'.cell? ⟨v1 + 1 + 1, 1, none⟩ = some (.slice go gl gc))] := ⟨(q0.below B23).cells, (p1.below B23).cells, (q1.below B23).cells, (p2.below B23).cells, (p3.below B23).cells, trivial⟩
  go_wp2_with fail
  refine hK.out _ _ (AllL.kept hHeld) ?_
  clear hK K
  (try simp only [Act.put, List.setIfInBounds_toArray, List.set_cons_zero, List.set_cons_succ])
  refine late_step 8 (by kernel_rfl) rfl (fun K hK => ?_)
  go_simp
  refine (lequal_any im42 ((((ig.below (below_drew' _)).below b21).below b22).below b23)).mono ?_
  rw [Hb24.out]
  rintro e w24 ⟨rfl, b24⟩
  have B24 : Below W11.heap.size W11 w24 := bstep B23 b24
  clear hHeld
  have hHeld : AllL w24 [(0, fun w' => w'.cell? ⟨g, 0, none⟩ = some (.bool na) ∧ w'.cell? ⟨g, 1, none⟩ = some (.slice ao al ac)), (1, fun w' => w'.cell? ⟨v1, 0, none⟩ = some (.bool xn) ∧ w'.cell? ⟨v1, 1, none⟩ = some (.slice xo xl xc)), (3, fun w' => w'.cell? ⟨g + 1, 0, none⟩ = some (.bool nb) ∧ w'.cell? ⟨g + 1, 1, none⟩ = some (.slice bo bl bc)), (4, fun w' => w'.cell? ⟨v1 + 1, 0, none⟩ = some (.bool yn) ∧ w'.cell? ⟨v1 + 1, 1, none⟩ = some (.slice yo yl yc)), (7, fun w' => w'.cell? ⟨v1 + 1 + 1, 0, none⟩ = some (.bool false) ∧ w'.cell? ⟨v1 + 1 + 1, 1, none⟩ = some (.slice go gl gc))] := ⟨(q0.below B24).cells, (p1.below B24).cells, (q1.below B24).cells, (p2.below B24).cells, (p3.below B24).cells, trivial⟩
  go_wp2_with fail
  refine hK.out _ _ (AllL.kept hHeld) ?_
  clear hK K
  (try simp only [Act.put, List.setIfInBounds_toArray, List.set_cons_zero, List.set_cons_succ])
  refine late_free 9 (v := .bool false) rfl (by kernel_rfl) (by kernel_rfl) (by kernel_rfl) (by kernel_rfl) (by kernel_rfl) (by kernel_rfl) (fun _ _ _ h => h) (Or.inl ⟨by rfl, ?_⟩) hHeld ?_
  · (intro u _; go_simp)
  (try simp only [Act.put, List.setIfInBounds_toArray, List.set_cons_zero, List.set_cons_succ])
  refine late_done (by kernel_rfl) ?_ _
  clear hHeld
  have b := B24
  clear b21 b22 b23 b24 B21 B22 B23 B24
  replace ia := ia.below b
  replace ib := ib.below b
  replace ig := ig.below b
  replace ix := ix.below b
  replace iy := iy.below b
  replace q0 := q0.below b
  replace q1 := q1.below b
  replace p1 := p1.below b
  replace p2 := p2.below b
  replace p3 := p3.below b
  replace hb := bstep hb b
  clear b
  clear im38 im41 im42
  obtain ⟨p3c, p3d⟩ := p3.cells
  go_wp2_with fail
  clear p3c p3d
  refine (c_sign ig).mono ?_
  rintro e w40 ⟨rfl, b⟩
  replace ia := ia.below b
  replace ib := ib.below b
  replace ig := ig.below b
  replace ix := ix.below b
  replace iy := iy.below b
  replace q0 := q0.below b
  replace q1 := q1.below b
  replace p1 := p1.below b
  replace p2 := p2.below b
  replace p3 := p3.below b
  replace hb := bstep hb b
  clear b
  by_cases hG : G = 0
  · obtain ⟨hA0, hB0⟩ := HBZ.out.nil hG
    rw [show cmpZ G 0 = 0 by rw [hG]; rfl]
    obtain ⟨q0c, q0d⟩ := q0.cells
    obtain ⟨q1c, q1d⟩ := q1.cells
    go_wp2_with fail
    clear q0c q0d q1c q1d
    refine (c_sign ia).mono ?_
    rw [show cmpZ A 0 = 0 by rw [hA0]; rfl]
    rintro e w41 ⟨rfl, b⟩
    replace ia := ia.below b
    replace ib := ib.below b
    replace ig := ig.below b
    replace ix := ix.below b
    replace iy := iy.below b
    replace q0 := q0.below b
    replace q1 := q1.below b
    replace p1 := p1.below b
    replace p2 := p2.below b
    replace p3 := p3.below b
    replace hb := bstep hb b
    clear b
    obtain ⟨q0c, q0d⟩ := q0.cells
    obtain ⟨q1c, q1d⟩ := q1.cells
    go_wp2_with fail
    clear q0c q0d q1c q1d
    refine (c_sign ib).mono ?_
    rw [show cmpZ B 0 = 0 by rw [hB0]; rfl]
    rintro e w42 ⟨rfl, b⟩
    have HE : Hid (Below w1.heap.size w1 w42) := bstep hb b
    clear hb b hA0 hB0 hG ia ib ig ix iy q0 q1 p1 p2 p3
    go_wp2_with fail
    go_ret
    exact ⟨rfl, HE.out⟩
  have HG0 : Hid (G ≠ 0) := hG
  obtain ⟨cg, hcg⟩ : ∃ c, c = cmpZ G 0 := ⟨_, rfl⟩
  have hcg0 : (cg == 0) = false := by rw [hcg]; cases hh : (cmpZ G 0 == 0) with
    | false => rfl
    | true => exact absurd ((cmpZ_zero G).1 (by simpa using hh)) hG
  rw [← hcg]
  clear hcg hG
  have HER : Hid (errZ G.natAbs = 0) := by show _ = _; unfold errZ; rw [if_neg (by have := HG0.out; omega)]
  obtain ⟨q0c, q0d⟩ := q0.cells
  obtain ⟨p3c, p3d⟩ := p3.cells
  go_wp2_with fail
  clear q0c q0d p3c p3d
  have hf := c_quo ia ig
  rw [HBZ.out.ra HG0.out |>.1, HER.out] at hf
  obtain ⟨P, hP⟩ : ∃ Q, Q = A.tdiv G := ⟨_, rfl⟩
  rw [← hP] at hf
  have sP : Sz P 30 := by rw [hP]; exact sa.le (tdiv_le A G)
  have HP : Hid (P = A.tdiv G) := hP
  clear hP
  refine hf.mono ?_
  rintro e w43 ⟨mq, mr, rfl, hq, hr, _, b⟩
  clear hf
  obtain ⟨pn, po, pl, pc, hqn, rfl, ip⟩ := hq.see sP (by decide)
  obtain ⟨rn, ro, rl, rc, hrn, rfl, ir⟩ := hr.see Sz.zero (by decide)
  rw [← hqn, ← hrn]
  clear hq hr hqn hrn
  replace ia := ia.below b
  replace ib := ib.below b
  replace ig := ig.below b
  replace ix := ix.below b
  replace iy := iy.below b
  replace q0 := q0.below b
  replace q1 := q1.below b
  replace p1 := p1.below b
  replace p2 := p2.below b
  replace p3 := p3.below b
  replace hb := bstep hb b
  clear b
  obtain ⟨W44, hW44⟩ : ∃ W, W = (w43.alloc (.cells #[.bool pn, .slice po pl pc] 25)).alloc (.cells #[.bool rn, .slice ro rl rc] 25) := ⟨_, rfl⟩
  have p4 : ICell W44 (w43.heap.size) pn (.slice po pl pc) := by rw [hW44]; exact (icell_step (icell_new _ rfl))
  have p5 : ICell W44 (w43.heap.size + 1) rn (.slice ro rl rc) := by rw [hW44]; exact (icell_new _ (by simp))
  have b : Below w43.heap.size w43 W44 := by rw [hW44]; exact bstep (belowA _ _) (belowA _ _)
  replace ia := ia.below b
  replace ib := ib.below b
  replace ig := ig.below b
  replace ix := ix.below b
  replace iy := iy.below b
  replace ip := ip.below b
  replace ir := ir.below b
  replace q0 := q0.below b
  replace q1 := q1.below b
  replace p1 := p1.below b
  replace p2 := p2.below b
  replace p3 := p3.below b
  replace hb := bstep hb b
  clear b
  have rc0 : ((w43.alloc (.cells #[.bool pn, .slice po pl pc] 25)).alloc (.cells #[.bool rn, .slice ro rl rc] 25)).cell? ⟨g + 1, 0, none⟩ = some (.bool nb) := by rw [← hW44]; exact q1.cells.1
  have rd0 : ((w43.alloc (.cells #[.bool pn, .slice po pl pc] 25)).alloc (.cells #[.bool rn, .slice ro rl rc] 25)).cell? ⟨g + 1, 1, none⟩ = some (.slice bo bl bc) := by rw [← hW44]; exact q1.cells.2
  have rc1 : ((w43.alloc (.cells #[.bool pn, .slice po pl pc] 25)).alloc (.cells #[.bool rn, .slice ro rl rc] 25)).cell? ⟨v1 + 1 + 1, 0, none⟩ = some (.bool false) := by rw [← hW44]; exact p3.cells.1
  have rd1 : ((w43.alloc (.cells #[.bool pn, .slice po pl pc] 25)).alloc (.cells #[.bool rn, .slice ro rl rc] 25)).cell? ⟨v1 + 1 + 1, 1, none⟩ = some (.slice go gl gc) := by rw [← hW44]; exact p3.cells.2
  obtain ⟨v2, hv2⟩ : ∃ v, v = w43.heap.size := ⟨_, rfl⟩
  rw [← hv2] at p4 p5
  have HW44 : Hid (W44 = (w43.alloc (.cells #[.bool pn, .slice po pl pc] 25)).alloc (.cells #[.bool rn, .slice ro rl rc] 25)) := hW44
  have Hv2 : Hid (v2 = w43.heap.size) := hv2
  clear hW44 hv2
  go_wp2_with fail
  rw [← HW44.out, ← Hv2.out]
  clear HW44 Hv2 rc0 rd0 rc1 rd1
  have hf := c_quo ib ig
  rw [HBZ.out.ra HG0.out |>.2, HER.out] at hf
  obtain ⟨Q, hQ⟩ : ∃ Q, Q = B.tdiv G := ⟨_, rfl⟩
  rw [← hQ] at hf
  have sQ : Sz Q 30 := by rw [hQ]; exact sb.le (tdiv_le B G)
  have HQ : Hid (Q = B.tdiv G) := hQ
  clear hQ
  refine hf.mono ?_
  rintro e w45 ⟨mq, mr, rfl, hq, hr, _, b⟩
  clear hf
  obtain ⟨qn, qo, ql, qc, hqn, rfl, iq⟩ := hq.see sQ (by decide)
  obtain ⟨sn, so, sl, sc, hrn, rfl, is⟩ := hr.see Sz.zero (by decide)
  rw [← hqn, ← hrn]
  clear hq hr hqn hrn
  replace ia := ia.below b
  replace ib := ib.below b
  replace ig := ig.below b
  replace ix := ix.below b
  replace iy := iy.below b
  replace ip := ip.below b
  replace ir := ir.below b
  replace q0 := q0.below b
  replace q1 := q1.below b
  replace p1 := p1.below b
  replace p2 := p2.below b
  replace p3 := p3.below b
  replace p4 := p4.below b
  replace p5 := p5.below b
  replace hb := bstep hb b
  clear b
  obtain ⟨W46, hW46⟩ : ∃ W, W = (w45.alloc (.cells #[.bool qn, .slice qo ql qc] 25)).alloc (.cells #[.bool sn, .slice so sl sc] 25) := ⟨_, rfl⟩
  have p6 : ICell W46 (w45.heap.size) qn (.slice qo ql qc) := by rw [hW46]; exact (icell_step (icell_new _ rfl))
  have p7 : ICell W46 (w45.heap.size + 1) sn (.slice so sl sc) := by rw [hW46]; exact (icell_new _ (by simp))
  have b : Below w45.heap.size w45 W46 := by rw [hW46]; exact bstep (belowA _ _) (belowA _ _)
  replace ia := ia.below b
  replace ib := ib.below b
  replace ig := ig.below b
  replace ix := ix.below b
  replace iy := iy.below b
  replace ip := ip.below b
  replace ir := ir.below b
  replace iq := iq.below b
  replace is := is.below b
  replace q0 := q0.below b
  replace q1 := q1.below b
  replace p1 := p1.below b
  replace p2 := p2.below b
  replace p3 := p3.below b
  replace p4 := p4.below b
  replace p5 := p5.below b
  replace hb := bstep hb b
  clear b
  obtain ⟨v3, hv3⟩ : ∃ v, v = w45.heap.size := ⟨_, rfl⟩
  rw [← hv3] at p6 p7
  have HW46 : Hid (W46 = (w45.alloc (.cells #[.bool qn, .slice qo ql qc] 25)).alloc (.cells #[.bool sn, .slice so sl sc] 25)) := hW46
  have Hv3 : Hid (v3 = w45.heap.size) := hv3
  clear hW46 hv3
  go_wp2_with fail
  rw [← HW46.out, ← Hv3.out]
  clear HW46 Hv3 
  refine (c_of (n := 1) (by decide) (by decide)).mono ?_
  rintro e w47 ⟨v, rfl, hv, b⟩
  obtain ⟨un, uo, ul, uc, rfl, iu⟩ := hv.see Sz.one (by decide)
  clear hv
  replace ia := ia.below b
  replace ib := ib.below b
  replace ig := ig.below b
  replace ix := ix.below b
  replace iy := iy.below b
  replace ip := ip.below b
  replace ir := ir.below b
  replace iq := iq.below b
  replace is := is.below b
  replace q0 := q0.below b
  replace q1 := q1.below b
  replace p1 := p1.below b
  replace p2 := p2.below b
  replace p3 := p3.below b
  replace p4 := p4.below b
  replace p5 := p5.below b
  replace p6 := p6.below b
  replace p7 := p7.below b
  replace hb := bstep hb b
  clear b
  obtain ⟨W48, hW48⟩ : ∃ W, W = w47.alloc (.cells #[.bool un, .slice uo ul uc] 25) := ⟨_, rfl⟩
  have p8 : ICell W48 (w47.heap.size) un (.slice uo ul uc) := by rw [hW48]; exact (icell_new _ rfl)
  have b : Below w47.heap.size w47 W48 := by rw [hW48]; exact belowA _ _
  replace ia := ia.below b
  replace ib := ib.below b
  replace ig := ig.below b
  replace ix := ix.below b
  replace iy := iy.below b
  replace ip := ip.below b
  replace ir := ir.below b
  replace iq := iq.below b
  replace is := is.below b
  replace iu := iu.below b
  replace q0 := q0.below b
  replace q1 := q1.below b
  replace p1 := p1.below b
  replace p2 := p2.below b
  replace p3 := p3.below b
  replace p4 := p4.below b
  replace p5 := p5.below b
  replace p6 := p6.below b
  replace p7 := p7.below b
  replace hb := bstep hb b
  clear b
  obtain ⟨v4, hv4⟩ : ∃ v, v = w47.heap.size := ⟨_, rfl⟩
  rw [← hv4] at p8
  have HW48 : Hid (W48 = w47.alloc (.cells #[.bool un, .slice uo ul uc] 25)) := hW48
  have Hv4 : Hid (v4 = w47.heap.size) := hv4
  clear hW48 hv4
  go_wp2_with fail
  rw [← HW48.out, ← Hv4.out]
  clear HW48 Hv4 
  have HLX : Hid (X.natAbs ≤ Q.natAbs ∨ X.natAbs ≤ 1) := by rw [HXA.out, HQ.out]; exact HBZ.out.ls HG0.out
  have HLY : Hid (Y.natAbs ≤ P.natAbs ∨ Y.natAbs ≤ 1) := by rw [HYA.out, HP.out]; exact HBZ.out.lt HG0.out
  by_cases hl : X.natAbs ≤ Q.natAbs
  · obtain ⟨c1, hc1⟩ : ∃ c, c = cmpZ (X.natAbs : Int) (Q.natAbs : Int) := ⟨_, rfl⟩
    have Hc1 : Hid (cmpZ (X.natAbs : Int) (Q.natAbs : Int) = c1) := hc1.symm
    have c10 : c1 ≤ 0 := by rw [hc1]; exact cmp_le hl
    clear hc1 hl
    refine region_late [(0, fun w' => w'.cell? ⟨v1, 0, none⟩ = some (.bool xn) ∧ w'.cell? ⟨v1, 1, none⟩ = some (.slice xo xl xc)), (2, fun w' => w'.cell? ⟨v3, 0, none⟩ = some (.bool qn) ∧ w'.cell? ⟨v3, 1, none⟩ = some (.slice qo ql qc))] (by kernel_rfl) ?_
    have hHeld : AllL W48.drew [(0, fun w' => w'.cell? ⟨v1, 0, none⟩ = some (.bool xn) ∧ w'.cell? ⟨v1, 1, none⟩ = some (.slice xo xl xc)), (2, fun w' => w'.cell? ⟨v3, 0, none⟩ = some (.bool qn) ∧ w'.cell? ⟨v3, 1, none⟩ = some (.slice qo ql qc))] := ⟨(show ICell W48.drew (v1) xn (.slice xo xl xc) from p1).cells, (show ICell W48.drew (v3) qn (.slice qo ql qc) from p6).cells, trivial⟩
    refine late_take 0 (v := .agg #[.bool xn, .slice xo xl xc]) rfl (by kernel_rfl) (List.Mem.head _) (by kernel_rfl) (by kernel_rfl) (by kernel_rfl) (by kernel_rfl) (fun _ _ _ h => h) (Or.inl ⟨by rfl, ?_⟩) hHeld ?_
    · (intro u hu; (try dsimp only at hu); go_split_ands; go_simp)
    (try simp only [Act.put, List.setIfInBounds_toArray, List.set_cons_zero, List.set_cons_succ])
    refine late_take 2 (v := .agg #[.bool qn, .slice qo ql qc]) rfl (by kernel_rfl) (List.Mem.tail _ (List.Mem.head _)) (by kernel_rfl) (by kernel_rfl) (by kernel_rfl) (by kernel_rfl) (fun _ _ _ h => h) (Or.inl ⟨by rfl, ?_⟩) hHeld ?_
    · (intro u hu; (try dsimp only at hu); go_split_ands; go_simp)
    (try simp only [Act.put, List.setIfInBounds_toArray, List.set_cons_zero, List.set_cons_succ])
    refine late_step 1 (by kernel_rfl) rfl (fun K hK => ?_)
    go_simp
    refine (lsize_any (ix.below (below_drew' _))).mono ?_
    rintro e w51 ⟨rfl, im76, b51⟩
    have B51 : Below W48.heap.size W48 w51 := bstep (below_drew' _) b51
    clear hHeld
    have hHeld : AllL w51 [(0, fun w' => w'.cell? ⟨v1, 0, none⟩ = some (.bool xn) ∧ w'.cell? ⟨v1, 1, none⟩ = some (.slice xo xl xc)), (2, fun w' => w'.cell? ⟨v3, 0, none⟩ = some (.bool qn) ∧ w'.cell? ⟨v3, 1, none⟩ = some (.slice qo ql qc))] := ⟨(p1.below B51).cells, (p6.below B51).cells, trivial⟩
    go_wp2_with fail
    refine hK.out _ _ (AllL.kept hHeld) ?_
    clear hK K
    (try simp only [Act.put, List.setIfInBounds_toArray, List.set_cons_zero, List.set_cons_succ])
    refine late_step 3 (by kernel_rfl) rfl (fun K hK => ?_)
    go_simp
    refine (lsize_any ((iq.below (below_drew' _)).below b51)).mono ?_
    rintro e w52 ⟨rfl, im78, b52⟩
    have B52 : Below W48.heap.size W48 w52 := bstep B51 b52
    clear hHeld
    have hHeld : AllL w52 [(0, fun w' => w'.cell? ⟨v1, 0, none⟩ = some (.bool xn) ∧ w'.cell? ⟨v1, 1, none⟩ = some (.slice xo xl xc)), (2, fun w' => w'.cell? ⟨v3, 0, none⟩ = some (.bool qn) ∧ w'.cell? ⟨v3, 1, none⟩ = some (.slice qo ql qc))] := ⟨(p1.below B52).cells, (p6.below B52).cells, trivial⟩
    go_wp2_with fail
    refine hK.out _ _ (AllL.kept hHeld) ?_
    clear hK K
    (try simp only [Act.put, List.setIfInBounds_toArray, List.set_cons_zero, List.set_cons_succ])
    refine late_step 4 (by kernel_rfl) rfl (fun K hK => ?_)
    go_simp
    refine (c_cmp (im76.below b52) im78).mono ?_
    rw [Hc1.out]
    rintro e w53 ⟨rfl, b53⟩
    have B53 : Below W48.heap.size W48 w53 := bstep B52 b53
    clear hHeld
    have hHeld : AllL w53 [(0, fun w' => w'.cell? ⟨v1, 0, none⟩ = some (.bool xn) ∧ w'.cell? ⟨v1, 1, none⟩ = some (.slice xo xl xc)), (2, fun w' => w'.cell? ⟨v3, 0, none⟩ = some (.bool qn) ∧ w'.cell? ⟨v3, 1, none⟩ = some (.slice qo ql qc))] := ⟨(p1.below B53).cells, (p6.below B53).cells, trivial⟩
    go_wp2_with fail
    refine hK.out _ _ (AllL.kept hHeld) ?_
    clear hK K
    (try simp only [Act.put, List.setIfInBounds_toArray, List.set_cons_zero, List.set_cons_succ])
    refine late_free 5 (v := .bool true) rfl (by kernel_rfl) (by kernel_rfl) (by kernel_rfl) (by kernel_rfl) (by kernel_rfl) (by kernel_rfl) (fun _ _ _ h => h) (Or.inl ⟨by rfl, ?_⟩) hHeld ?_
    · (intro u _; go_simp)
    (try simp only [Act.put, List.setIfInBounds_toArray, List.set_cons_zero, List.set_cons_succ])
    refine late_free 6 (v := .bool true) rfl (by kernel_rfl) (by kernel_rfl) (by kernel_rfl) (by kernel_rfl) (by kernel_rfl) (by kernel_rfl) (fun _ _ _ h => h) (Or.inl ⟨by rfl, ?_⟩) hHeld ?_
    · (intro u _; go_simp)
    (try simp only [Act.put, List.setIfInBounds_toArray, List.set_cons_zero, List.set_cons_succ])
    refine late_free 7 (v := undef) rfl (by kernel_rfl) (by kernel_rfl) (by kernel_rfl) (by kernel_rfl) (by kernel_rfl) (by kernel_rfl) (fun _ _ _ h => h) (Or.inr ⟨by rfl, rfl⟩) hHeld ?_
    (try simp only [Act.put, List.setIfInBounds_toArray, List.set_cons_zero, List.set_cons_succ])
    refine late_free 8 (v := undef) rfl (by kernel_rfl) (by kernel_rfl) (by kernel_rfl) (by kernel_rfl) (by kernel_rfl) (by kernel_rfl) (fun _ _ _ h => h) (Or.inr ⟨by rfl, rfl⟩) hHeld ?_
    (try simp only [Act.put, List.setIfInBounds_toArray, List.set_cons_zero, List.set_cons_succ])
    refine late_free 9 (v := undef) rfl (by kernel_rfl) (by kernel_rfl) (by kernel_rfl) (by kernel_rfl) (by kernel_rfl) (by kernel_rfl) (fun _ _ _ h => h) (Or.inr ⟨by rfl, rfl⟩) hHeld ?_
    (try simp only [Act.put, List.setIfInBounds_toArray, List.set_cons_zero, List.set_cons_succ])
    refine late_free 10 (v := undef) rfl (by kernel_rfl) (by kernel_rfl) (by kernel_rfl) (by kernel_rfl) (by kernel_rfl) (by kernel_rfl) (fun _ _ _ h => h) (Or.inr ⟨by rfl, rfl⟩) hHeld ?_
    (try simp only [Act.put, List.setIfInBounds_toArray, List.set_cons_zero, List.set_cons_succ])
    refine late_free 11 (v := undef) rfl (by kernel_rfl) (by kernel_rfl) (by kernel_rfl) (by kernel_rfl) (by kernel_rfl) (by kernel_rfl) (fun _ _ _ h => h) (Or.inr ⟨by rfl, rfl⟩) hHeld ?_
    (try simp only [Act.put, List.setIfInBounds_toArray, List.set_cons_zero, List.set_cons_succ])
    refine late_free 12 (v := .bool true) rfl (by kernel_rfl) (by kernel_rfl) (by kernel_rfl) (by kernel_rfl) (by kernel_rfl) (by kernel_rfl) (fun _ _ _ h => h) (Or.inl ⟨by rfl, ?_⟩) hHeld ?_
    · (intro u _; go_simp)
    (try simp only [Act.put, List.setIfInBounds_toArray, List.set_cons_zero, List.set_cons_succ])
    refine late_step 13 (by kernel_rfl) rfl (fun K hK => ?_)
    go_simp
    refine hK.out _ _ ⟨Or.inl ⟨1, by kernel_rfl, by kernel_rfl⟩, Or.inl ⟨3, by kernel_rfl, by kernel_rfl⟩, trivial⟩ ?_
    clear hK K
    (try simp only [Act.put, List.setIfInBounds_toArray, List.set_cons_zero, List.set_cons_succ])
    refine late_done (by kernel_rfl) ?_ _
    clear hHeld
    have b := B53
    clear b51 b52 b53 B51 B52 B53
    replace ia := ia.below b
    replace ib := ib.below b
    replace ig := ig.below b
    replace ix := ix.below b
    replace iy := iy.below b
    replace ip := ip.below b
    replace ir := ir.below b
    replace iq := iq.below b
    replace is := is.below b
    replace iu := iu.below b
    replace q0 := q0.below b
    replace q1 := q1.below b
    replace p1 := p1.below b
    replace p2 := p2.below b
    replace p3 := p3.below b
    replace p4 := p4.below b
    replace p5 := p5.below b
    replace p6 := p6.below b
    replace p7 := p7.below b
    replace p8 := p8.below b
    replace hb := bstep hb b
    clear b
    clear im76 im78
    go_wp2_with fail
    by_cases hl : Y.natAbs ≤ P.natAbs
    · obtain ⟨c2, hc2⟩ : ∃ c, c = cmpZ (Y.natAbs : Int) (P.natAbs : Int) := ⟨_, rfl⟩
      have Hc2 : Hid (cmpZ (Y.natAbs : Int) (P.natAbs : Int) = c2) := hc2.symm
      have c20 : c2 ≤ 0 := by rw [hc2]; exact cmp_le hl
      clear hc2 hl
      refine region_late [(0, fun w' => w'.cell? ⟨v1 + 1, 0, none⟩ = some (.bool yn) ∧ w'.cell? ⟨v1 + 1, 1, none⟩ = some (.slice yo yl yc)), (2, fun w' => w'.cell? ⟨v2, 0, none⟩ = some (.bool pn) ∧ w'.cell? ⟨v2, 1, none⟩ = some (.slice po pl pc))] (by kernel_rfl) ?_
      have hHeld : AllL w53.drew [(0, fun w' => w'.cell? ⟨v1 + 1, 0, none⟩ = some (.bool yn) ∧ w'.cell? ⟨v1 + 1, 1, none⟩ = some (.slice yo yl yc)), (2, fun w' => w'.cell? ⟨v2, 0, none⟩ = some (.bool pn) ∧ w'.cell? ⟨v2, 1, none⟩ = some (.slice po pl pc))] := ⟨(show ICell w53.drew (v1 + 1) yn (.slice yo yl yc) from p2).cells, (show ICell w53.drew (v2) pn (.slice po pl pc) from p4).cells, trivial⟩
      refine late_take 0 (v := .agg #[.bool yn, .slice yo yl yc]) rfl (by kernel_rfl) (List.Mem.head _) (by kernel_rfl) (by kernel_rfl) (by kernel_rfl) (by kernel_rfl) (fun _ _ _ h => h) (Or.inl ⟨by rfl, ?_⟩) hHeld ?_
      · (intro u hu; (try dsimp only at hu); go_split_ands; go_simp)
      (try simp only [Act.put, List.setIfInBounds_toArray, List.set_cons_zero, List.set_cons_succ])
      refine late_take 2 (v := .agg #[.bool pn, .slice po pl pc]) rfl (by kernel_rfl) (List.Mem.tail _ (List.Mem.head _)) (by kernel_rfl) (by kernel_rfl) (by kernel_rfl) (by kernel_rfl) (fun _ _ _ h => h) (Or.inl ⟨by rfl, ?_⟩) hHeld ?_
      · (intro u hu; (try dsimp only at hu); go_split_ands; go_simp)
      (try simp only [Act.put, List.setIfInBounds_toArray, List.set_cons_zero, List.set_cons_succ])
      refine late_step 1 (by kernel_rfl) rfl (fun K hK => ?_)
      go_simp
      refine (lsize_any (iy.below (below_drew' _))).mono ?_
      rintro e w54 ⟨rfl, im89, b54⟩
      have B54 : Below w53.heap.size w53 w54 := bstep (below_drew' _) b54
      clear hHeld
      have hHeld : AllL w54 [(0, fun w' => w'.cell? ⟨v1 + 1, 0, none⟩ = some (.bool yn) ∧ w'.cell? ⟨v1 + 1, 1, none⟩ = some (.slice yo yl yc)), (2, fun w' => w'.cell? ⟨v2, 0, none⟩ = some (.bool pn) ∧ w'.cell? ⟨v2, 1, none⟩ = some (.slice po pl pc))] := ⟨(p2.below B54).cells, (p4.below B54).cells, trivial⟩
      go_wp2_with fail
      refine hK.out _ _ (AllL.kept hHeld) ?_
      clear hK K
      (try simp only [Act.put, List.setIfInBounds_toArray, List.set_cons_zero, List.set_cons_succ])
      refine late_step 3 (by kernel_rfl) rfl (fun K hK => ?_)
      go_simp
      refine (lsize_any ((ip.below (below_drew' _)).below b54)).mono ?_
      rintro e w55 ⟨rfl, im91, b55⟩
      have B55 : Below w53.heap.size w53 w55 := bstep B54 b55
      clear hHeld
      have hHeld : AllL w55 [(0, fun w' => w'.cell? ⟨v1 + 1, 0, none⟩ = some (.bool yn) ∧ w'.cell? ⟨v1 + 1, 1, none⟩ = some (.slice yo yl yc)), (2, fun w' => w'.cell? ⟨v2, 0, none⟩ = some (.bool pn) ∧ w'.cell? ⟨v2, 1, none⟩ = some (.slice po pl pc))] := ⟨(p2.below B55).cells, (p4.below B55).cells, trivial⟩
      go_wp2_with fail
      refine hK.out _ _ (AllL.kept hHeld) ?_
      clear hK K
      (try simp only [Act.put, List.setIfInBounds_toArray, List.set_cons_zero, List.set_cons_succ])
      refine late_step 4 (by kernel_rfl) rfl (fun K hK => ?_)
      go_simp
      refine (c_cmp (im89.below b55) im91).mono ?_
      rw [Hc2.out]
      rintro e w56 ⟨rfl, b56⟩
      have B56 : Below w53.heap.size w53 w56 := bstep B55 b56
      clear hHeld
      have hHeld : AllL w56 [(0, fun w' => w'.cell? ⟨v1 + 1, 0, none⟩ = some (.bool yn) ∧ w'.cell? ⟨v1 + 1, 1, none⟩ = some (.slice yo yl yc)), (2, fun w' => w'.cell? ⟨v2, 0, none⟩ = some (.bool pn) ∧ w'.cell? ⟨v2, 1, none⟩ = some (.slice po pl pc))] := ⟨(p2.below B56).cells, (p4.below B56).cells, trivial⟩
      go_wp2_with fail
      refine hK.out _ _ (AllL.kept hHeld) ?_
      clear hK K
      (try simp only [Act.put, List.setIfInBounds_toArray, List.set_cons_zero, List.set_cons_succ])
      refine late_free 5 (v := .bool true) rfl (by kernel_rfl) (by kernel_rfl) (by kernel_rfl) (by kernel_rfl) (by kernel_rfl) (by kernel_rfl) (fun _ _ _ h => h) (Or.inl ⟨by rfl, ?_⟩) hHeld ?_
      · (intro u _; go_simp)
      (try simp only [Act.put, List.setIfInBounds_toArray, List.set_cons_zero, List.set_cons_succ])
      refine late_free 6 (v := .bool true) rfl (by kernel_rfl) (by kernel_rfl) (by kernel_rfl) (by kernel_rfl) (by kernel_rfl) (by kernel_rfl) (fun _ _ _ h => h) (Or.inl ⟨by rfl, ?_⟩) hHeld ?_
      · (intro u _; go_simp)
      (try simp only [Act.put, List.setIfInBounds_toArray, List.set_cons_zero, List.set_cons_succ])
      refine late_free 7 (v := undef) rfl (by kernel_rfl) (by kernel_rfl) (by kernel_rfl) (by kernel_rfl) (by kernel_rfl) (by kernel_rfl) (fun _ _ _ h => h) (Or.inr ⟨by rfl, rfl⟩) hHeld ?_
      (try simp only [Act.put, List.setIfInBounds_toArray, List.set_cons_zero, List.set_cons_succ])
      refine late_free 8 (v := undef) rfl (by kernel_rfl) (by kernel_rfl) (by kernel_rfl) (by kernel_rfl) (by kernel_rfl) (by kernel_rfl) (fun _ _ _ h => h) (Or.inr ⟨by rfl, rfl⟩) hHeld ?_
      (try simp only [Act.put, List.setIfInBounds_toArray, List.set_cons_zero, List.set_cons_succ])
      refine late_free 9 (v := undef) rfl (by kernel_rfl) (by kernel_rfl) (by kernel_rfl) (by kernel_rfl) (by kernel_rfl) (by kernel_rfl) (fun _ _ _ h => h) (Or.inr ⟨by rfl, rfl⟩) hHeld ?_
      (try simp only [Act.put, List.setIfInBounds_toArray, List.set_cons_zero, List.set_cons_succ])
      refine late_free 10 (v := undef) rfl (by kernel_rfl) (by kernel_rfl) (by kernel_rfl) (by kernel_rfl) (by kernel_rfl) (by kernel_rfl) (fun _ _ _ h => h) (Or.inr ⟨by rfl, rfl⟩) hHeld ?_
      (try simp only [Act.put, List.setIfInBounds_toArray, List.set_cons_zero, List.set_cons_succ])
      refine late_free 11 (v := undef) rfl (by kernel_rfl) (by kernel_rfl) (by kernel_rfl) (by kernel_rfl) (by kernel_rfl) (by kernel_rfl) (fun _ _ _ h => h) (Or.inr ⟨by rfl, rfl⟩) hHeld ?_
      (try simp only [Act.put, List.setIfInBounds_toArray, List.set_cons_zero, List.set_cons_succ])
      refine late_free 12 (v := .bool true) rfl (by kernel_rfl) (by kernel_rfl) (by kernel_rfl) (by kernel_rfl) (by kernel_rfl) (by kernel_rfl) (fun _ _ _ h => h) (Or.inl ⟨by rfl, ?_⟩) hHeld ?_
      · (intro u _; go_simp)
      (try simp only [Act.put, List.setIfInBounds_toArray, List.set_cons_zero, List.set_cons_succ])
      refine late_step 13 (by kernel_rfl) rfl (fun K hK => ?_)
      go_simp
      refine hK.out _ _ ⟨Or.inl ⟨1, by kernel_rfl, by kernel_rfl⟩, Or.inl ⟨3, by kernel_rfl, by kernel_rfl⟩, trivial⟩ ?_
      clear hK K
      (try simp only [Act.put, List.setIfInBounds_toArray, List.set_cons_zero, List.set_cons_succ])
      refine late_done (by kernel_rfl) ?_ _
      clear hHeld
      have b := B56
      clear b54 b55 b56 B54 B55 B56
      replace ia := ia.below b
      replace ib := ib.below b
      replace ig := ig.below b
      replace ix := ix.below b
      replace iy := iy.below b
      replace ip := ip.below b
      replace ir := ir.below b
      replace iq := iq.below b
      replace is := is.below b
      replace iu := iu.below b
      replace q0 := q0.below b
      replace q1 := q1.below b
      replace p1 := p1.below b
      replace p2 := p2.below b
      replace p3 := p3.below b
      replace p4 := p4.below b
      replace p5 := p5.below b
      replace p6 := p6.below b
      replace p7 := p7.below b
      replace p8 := p8.below b
      replace hb := bstep hb b
      clear b
      clear im89 im91
      obtain ⟨p5c, p5d⟩ := p5.cells
      go_wp2_with fail
      clear p5c p5d
      refine (c_sign ir).mono ?_
      rw [show cmpZ 0 0 = 0 from rfl]
      rintro e w98 ⟨rfl, b⟩
      replace ia := ia.below b
      replace ib := ib.below b
      replace ig := ig.below b
      replace ix := ix.below b
      replace iy := iy.below b
      replace ip := ip.below b
      replace ir := ir.below b
      replace iq := iq.below b
      replace is := is.below b
      replace iu := iu.below b
      replace q0 := q0.below b
      replace q1 := q1.below b
      replace p1 := p1.below b
      replace p2 := p2.below b
      replace p3 := p3.below b
      replace p4 := p4.below b
      replace p5 := p5.below b
      replace p6 := p6.below b
      replace p7 := p7.below b
      replace p8 := p8.below b
      replace hb := bstep hb b
      clear b
      obtain ⟨p7c, p7d⟩ := p7.cells
      go_wp2_with fail
      clear p7c p7d
      refine (c_sign is).mono ?_
      rw [show cmpZ 0 0 = 0 from rfl]
      rintro e w99 ⟨rfl, b⟩
      have HE : Hid (Below w1.heap.size w1 w99) := bstep hb b
      clear hb b ia ib ig ix iy ip ir iq is iu q0 q1 p1 p2 p3 p4 p5 p6 p7 p8
      go_wp2_with fail
      go_ret
      exact ⟨rfl, HE.out⟩
    · have hl1 : Y.natAbs ≤ 1 := HLY.out.resolve_left hl
      have Hc2a : Hid (cmpZ (Y.natAbs : Int) (P.natAbs : Int) = 1) := cmp_no hl
      obtain ⟨c2, hc2⟩ : ∃ c, c = cmpZ (Y.natAbs : Int) 1 := ⟨_, rfl⟩
      have Hc2 : Hid (cmpZ (Y.natAbs : Int) 1 = c2) := hc2.symm
      have c20 : c2 ≤ 0 := by rw [hc2]; exact cmp_le (y := 1) hl1
      clear hc2 hl hl1
      refine region_late [(0, fun w' => w'.cell? ⟨v1 + 1, 0, none⟩ = some (.bool yn) ∧ w'.cell? ⟨v1 + 1, 1, none⟩ = some (.slice yo yl yc)), (2, fun w' => w'.cell? ⟨v2, 0, none⟩ = some (.bool pn) ∧ w'.cell? ⟨v2, 1, none⟩ = some (.slice po pl pc)), (7, fun w' => w'.cell? ⟨v1 + 1, 0, none⟩ = some (.bool yn) ∧ w'.cell? ⟨v1 + 1, 1, none⟩ = some (.slice yo yl yc)), (9, fun w' => w'.cell? ⟨v4, 0, none⟩ = some (.bool un) ∧ w'.cell? ⟨v4, 1, none⟩ = some (.slice uo ul uc))] (by kernel_rfl) ?_
      have hHeld : AllL w53.drew [(0, fun w' => w'.cell? ⟨v1 + 1, 0, none⟩ = some (.bool yn) ∧ w'.cell? ⟨v1 + 1, 1, none⟩ = some (.slice yo yl yc)), (2, fun w' => w'.cell? ⟨v2, 0, none⟩ = some (.bool pn) ∧ w'.cell? ⟨v2, 1, none⟩ = some (.slice po pl pc)), (7, fun w' => w'.cell? ⟨v1 + 1, 0, none⟩ = some (.bool yn) ∧ w'.cell? ⟨v1 + 1, 1, none⟩ = some (.slice yo yl yc)), (9, fun w' => w'.cell? ⟨v4, 0, none⟩ = some (.bool un) ∧ w'.cell? ⟨v4, 1, none⟩ = some (.slice uo ul uc))] := ⟨(show ICell w53.drew (v1 + 1) yn (.slice yo yl yc) from p2).cells, (show ICell w53.drew (v2) pn (.slice po pl pc) from p4).cells, (show ICell w53.drew (v1 + 1) yn (.slice yo yl yc) from p2).cells, (show ICell w53.drew (v4) un (.slice uo ul uc) from p8).cells, trivial⟩
      refine late_take 0 (v := .agg #[.bool yn, .slice yo yl yc]) rfl (by kernel_rfl) (List.Mem.head _) (by kernel_rfl) (by kernel_rfl) (by kernel_rfl) (by kernel_rfl) (fun _ _ _ h => h) (Or.inl ⟨by rfl, ?_⟩) hHeld ?_
      · (intro u hu; (try dsimp only at hu); go_split_ands; go_simp)
      (try simp only [Act.put, List.setIfInBounds_toArray, List.set_cons_zero, List.set_cons_succ])
      refine late_take 2 (v := .agg #[.bool pn, .slice po pl pc]) rfl (by kernel_rfl) (List.Mem.tail _ (List.Mem.head _)) (by kernel_rfl) (by kernel_rfl) (by kernel_rfl) (by kernel_rfl) (fun _ _ _ h => h) (Or.inl ⟨by rfl, ?_⟩) hHeld ?_
      · (intro u hu; (try dsimp only at hu); go_split_ands; go_simp)
      (try simp only [Act.put, List.setIfInBounds_toArray, List.set_cons_zero, List.set_cons_succ])
      refine late_step 1 (by kernel_rfl) rfl (fun K hK => ?_)
      go_simp
      refine (lsize_any (iy.below (below_drew' _))).mono ?_
      rintro e w54 ⟨rfl, im89, b54⟩
      have B54 : Below w53.heap.size w53 w54 := bstep (below_drew' _) b54
      clear hHeld
      have hHeld : AllL w54 [(0, fun w' => w'.cell? ⟨v1 + 1, 0, none⟩ = some (.bool yn) ∧ w'.cell? ⟨v1 + 1, 1, none⟩ = some (.slice yo yl yc)), (2, fun w' => w'.cell? ⟨v2, 0, none⟩ = some (.bool pn) ∧ w'.cell? ⟨v2, 1, none⟩ = some (.slice po pl pc)), (7, fun w' => w'.cell? ⟨v1 + 1, 0, none⟩ = some (.bool yn) ∧ w'.cell? ⟨v1 + 1, 1, none⟩ = some (.slice yo yl yc)), (9, fun w' => w'.cell? ⟨v4, 0, none⟩ = some (.bool un) ∧ w'.cell? ⟨v4, 1, none⟩ = some (.slice uo ul uc))] := ⟨(p2.below B54).cells, (p4.below B54).cells, (p2.below B54).cells, (p8.below B54).cells, trivial⟩
      go_wp2_with fail
      refine hK.out _ _ (AllL.kept hHeld) ?_
      clear hK K
      (try simp only [Act.put, List.setIfInBounds_toArray, List.set_cons_zero, List.set_cons_succ])
      refine late_step 3 (by kernel_rfl) rfl (fun K hK => ?_)
      go_simp
      refine (lsize_any ((ip.below (below_drew' _)).below b54)).mono ?_
      rintro e w55 ⟨rfl, im91, b55⟩
      have B55 : Below w53.heap.size w53 w55 := bstep B54 b55
      clear hHeld
      have hHeld : AllL w55 [(0, fun w' => w'.cell? ⟨v1 + 1, 0, none⟩ = some (.bool yn) ∧ w'.cell? ⟨v1 + 1, 1, none⟩ = some (.slice yo yl yc)), (2, fun w' => w'.cell? ⟨v2, 0, none⟩ = some (.bool pn) ∧ w'.cell? ⟨v2, 1, none⟩ = some (.slice po pl pc)), (7, fun w' => w'.cell? ⟨v1 + 1, 0, none⟩ = some (.bool yn) ∧ w'.cell? ⟨v1 + 1, 1, none⟩ = some (.slice yo yl yc)), (9, fun w' => w'.cell? ⟨v4, 0, none⟩ = some (.bool un) ∧ w'.cell? ⟨v4, 1, none⟩ = some (.slice uo ul uc))] := ⟨(p2.below B55).cells, (p4.below B55).cells, (p2.below B55).cells, (p8.below B55).cells, trivial⟩
      go_wp2_with fail
      refine hK.out _ _ (AllL.kept hHeld) ?_
      clear hK K
      (try simp only [Act.put, List.setIfInBounds_toArray, List.set_cons_zero, List.set_cons_succ])
      refine late_step 4 (by kernel_rfl) rfl (fun K hK => ?_)
      go_simp
      refine (c_cmp (im89.below b55) im91).mono ?_
      rw [Hc2a.out]
      rintro e w56 ⟨rfl, b56⟩
      have B56 : Below w53.heap.size w53 w56 := bstep B55 b56
      clear hHeld
      have hHeld : AllL w56 [(0, fun w' => w'.cell? ⟨v1 + 1, 0, none⟩ = some (.bool yn) ∧ w'.cell? ⟨v1 + 1, 1, none⟩ = some (.slice yo yl yc)), (2, fun w' => w'.cell? ⟨v2, 0, none⟩ = some (.bool pn) ∧ w'.cell? ⟨v2, 1, none⟩ = some (.slice po pl pc)), (7, fun w' => w'.cell? ⟨v1 + 1, 0, none⟩ = some (.bool yn) ∧ w'.cell? ⟨v1 + 1, 1, none⟩ = some (.slice yo yl yc)), (9, fun w' => w'.cell? ⟨v4, 0, none⟩ = some (.bool un) ∧ w'.cell? ⟨v4, 1, none⟩ = some (.slice uo ul uc))] := ⟨(p2.below B56).cells, (p4.below B56).cells, (p2.below B56).cells, (p8.below B56).cells, trivial⟩
      go_wp2_with fail
      refine hK.out _ _ (AllL.kept hHeld) ?_
      clear hK K
      (try simp only [Act.put, List.setIfInBounds_toArray, List.set_cons_zero, List.set_cons_succ])
      refine late_free 5 (v := .bool false) rfl (by kernel_rfl) (by kernel_rfl) (by kernel_rfl) (by kernel_rfl) (by kernel_rfl) (by kernel_rfl) (fun _ _ _ h => h) (Or.inl ⟨by rfl, ?_⟩) hHeld ?_
      · (intro u _; go_simp)
      (try simp only [Act.put, List.setIfInBounds_toArray, List.set_cons_zero, List.set_cons_succ])
      refine late_free 6 (v := .bool false) rfl (by kernel_rfl) (by kernel_rfl) (by kernel_rfl) (by kernel_rfl) (by kernel_rfl) (by kernel_rfl) (fun _ _ _ h => h) (Or.inl ⟨by rfl, ?_⟩) hHeld ?_
      · (intro u _; go_simp)
      (try simp only [Act.put, List.setIfInBounds_toArray, List.set_cons_zero, List.set_cons_succ])
      refine late_take 7 (v := .agg #[.bool yn, .slice yo yl yc]) rfl (by kernel_rfl) (List.Mem.tail _ (List.Mem.tail _ (List.Mem.head _))) (by kernel_rfl) (by kernel_rfl) (by kernel_rfl) (by kernel_rfl) (fun _ _ _ h => h) (Or.inl ⟨by rfl, ?_⟩) hHeld ?_
      · (intro u hu; (try dsimp only at hu); go_split_ands; go_simp)
      (try simp only [Act.put, List.setIfInBounds_toArray, List.set_cons_zero, List.set_cons_succ])
      refine late_take 9 (v := .agg #[.bool un, .slice uo ul uc]) rfl (by kernel_rfl) (List.Mem.tail _ (List.Mem.tail _ (List.Mem.tail _ (List.Mem.head _)))) (by kernel_rfl) (by kernel_rfl) (by kernel_rfl) (by kernel_rfl) (fun _ _ _ h => h) (Or.inl ⟨by rfl, ?_⟩) hHeld ?_
      · (intro u hu; (try dsimp only at hu); go_split_ands; go_simp)
      (try simp only [Act.put, List.setIfInBounds_toArray, List.set_cons_zero, List.set_cons_succ])
      refine late_step 8 (by kernel_rfl) rfl (fun K hK => ?_)
      go_simp
      refine (lsize_any ((((iy.below (below_drew' _)).below b54).below b55).below b56)).mono ?_
      rintro e w57 ⟨rfl, im96, b57⟩
      have B57 : Below w53.heap.size w53 w57 := bstep B56 b57
      clear hHeld
      have hHeld : AllL w57 [(0, fun w' => w'.cell? ⟨v1 + 1, 0, none⟩ = some (.bool yn) ∧ w'.cell? ⟨v1 + 1, 1, none⟩ = some (.slice yo yl yc)), (2, fun w' => w'.cell? ⟨v2, 0, none⟩ = some (.bool pn) ∧ w'.cell? ⟨v2, 1, none⟩ = some (.slice po pl pc)), (7, fun w' => w'.cell? ⟨v1 + 1, 0, none⟩ = some (.bool yn) ∧ w'.cell? ⟨v1 + 1, 1, none⟩ = some (.slice yo yl yc)), (9, fun w' => w'.cell? ⟨v4, 0, none⟩ = some (.bool un) ∧ w'.cell? ⟨v4, 1, none⟩ = some (.slice uo ul uc))] := ⟨(p2.below B57).cells, (p4.below B57).cells, (p2.below B57).cells, (p8.below B57).cells, trivial⟩
      go_wp2_with fail
      refine hK.out _ _ (AllL.kept hHeld) ?_
      clear hK K
      (try simp only [Act.put, List.setIfInBounds_toArray, List.set_cons_zero, List.set_cons_succ])
      refine late_step 10 (by kernel_rfl) rfl (fun K hK => ?_)
      go_simp
      refine (c_cmp im96 (((((iu.below (below_drew' _)).below b54).below b55).below b56).below b57)).mono ?_
      rw [Hc2.out]
      rintro e w58 ⟨rfl, b58⟩
      have B58 : Below w53.heap.size w53 w58 := bstep B57 b58
      clear hHeld
      have hHeld : AllL w58 [(0, fun w' => w'.cell? ⟨v1 + 1, 0, none⟩ = some (.bool yn) ∧ w'.cell? ⟨v1 + 1, 1, none⟩ = some (.slice yo yl yc)), (2, fun w' => w'.cell? ⟨v2, 0, none⟩ = some (.bool pn) ∧ w'.cell? ⟨v2, 1, none⟩ = some (.slice po pl pc)), (7, fun w' => w'.cell? ⟨v1 + 1, 0, none⟩ = some (.bool yn) ∧ w'.cell? ⟨v1 + 1, 1, none⟩ = some (.slice yo yl yc)), (9, fun w' => w'.cell? ⟨v4, 0, none⟩ = some (.bool un) ∧ w'.cell? ⟨v4, 1, none⟩ = some (.slice uo ul uc))] := ⟨(p2.below B58).cells, (p4.below B58).cells, (p2.below B58).cells, (p8.below B58).cells, trivial⟩
      go_wp2_with fail
      refine hK.out _ _ (AllL.kept hHeld) ?_
      clear hK K
      (try simp only [Act.put, List.setIfInBounds_toArray, List.set_cons_zero, List.set_cons_succ])
      refine late_free 11 (v := .bool true) rfl (by kernel_rfl) (by kernel_rfl) (by kernel_rfl) (by kernel_rfl) (by kernel_rfl) (by kernel_rfl) (fun _ _ _ h => h) (Or.inl ⟨by rfl, ?_⟩) hHeld ?_
      · (intro u _; go_simp)
      (try simp only [Act.put, List.setIfInBounds_toArray, List.set_cons_zero, List.set_cons_succ])
      refine late_free 12 (v := .bool true) rfl (by kernel_rfl) (by kernel_rfl) (by kernel_rfl) (by kernel_rfl) (by kernel_rfl) (by kernel_rfl) (fun _ _ _ h => h) (Or.inl ⟨by rfl, ?_⟩) hHeld ?_
      · (intro u _; go_simp)
      (try simp only [Act.put, List.setIfInBounds_toArray, List.set_cons_zero, List.set_cons_succ])
      refine late_step 13 (by kernel_rfl) rfl (fun K hK => ?_)
      go_simp
      refine hK.out _ _ ⟨Or.inl ⟨1, by kernel_rfl, by kernel_rfl⟩, Or.inl ⟨3, by kernel_rfl, by kernel_rfl⟩, Or.inl ⟨8, by kernel_rfl, by kernel_rfl⟩, Or.inl ⟨10, by kernel_rfl, by kernel_rfl⟩, trivial⟩ ?_
      clear hK K
      (try simp only [Act.put, List.setIfInBounds_toArray, List.set_cons_zero, List.set_cons_succ])
      refine late_done (by kernel_rfl) ?_ _
      clear hHeld
      have b := B58
      clear b54 b55 b56 b57 b58 B54 B55 B56 B57 B58
      replace ia := ia.below b
      replace ib := ib.below b
      replace ig := ig.below b
      replace ix := ix.below b
      replace iy := iy.below b
      replace ip := ip.below b
      replace ir := ir.below b
      replace iq := iq.below b
      replace is := is.below b
      replace iu := iu.below b
      replace q0 := q0.below b
      replace q1 := q1.below b
      replace p1 := p1.below b
      replace p2 := p2.below b
      replace p3 := p3.below b
      replace p4 := p4.below b
      replace p5 := p5.below b
      replace p6 := p6.below b
      replace p7 := p7.below b
      replace p8 := p8.below b
      replace hb := bstep hb b
      clear b
      clear im89 im91 im96
      obtain ⟨p5c, p5d⟩ := p5.cells
      go_wp2_with fail
      clear p5c p5d
      refine (c_sign ir).mono ?_
      rw [show cmpZ 0 0 = 0 from rfl]
      rintro e w98 ⟨rfl, b⟩
      replace ia := ia.below b
      replace ib := ib.below b
      replace ig := ig.below b
      replace ix := ix.below b
      replace iy := iy.below b
      replace ip := ip.below b
      replace ir := ir.below b
      replace iq := iq.below b
      replace is := is.below b
      replace iu := iu.below b
      replace q0 := q0.below b
      replace q1 := q1.below b
      replace p1 := p1.below b
      replace p2 := p2.below b
      replace p3 := p3.below b
      replace p4 := p4.below b
      replace p5 := p5.below b
      replace p6 := p6.below b
      replace p7 := p7.below b
      replace p8 := p8.below b
      replace hb := bstep hb b
      clear b
      obtain ⟨p7c, p7d⟩ := p7.cells
      go_wp2_with fail
      clear p7c p7d
      refine (c_sign is).mono ?_
      rw [show cmpZ 0 0 = 0 from rfl]
      rintro e w99 ⟨rfl, b⟩
      have HE : Hid (Below w1.heap.size w1 w99) := bstep hb b
      clear hb b ia ib ig ix iy ip ir iq is iu q0 q1 p1 p2 p3 p4 p5 p6 p7 p8
      go_wp2_with fail
      go_ret
      exact ⟨rfl, HE.out⟩
  · have hl1 : X.natAbs ≤ 1 := HLX.out.resolve_left hl
    have Hc1a : Hid (cmpZ (X.natAbs : Int) (Q.natAbs : Int) = 1) := cmp_no hl
    obtain ⟨c1, hc1⟩ : ∃ c, c = cmpZ (X.natAbs : Int) 1 := ⟨_, rfl⟩
    have Hc1 : Hid (cmpZ (X.natAbs : Int) 1 = c1) := hc1.symm
    have c10 : c1 ≤ 0 := by rw [hc1]; exact cmp_le (y := 1) hl1
    clear hc1 hl hl1
    refine region_late [(0, fun w' => w'.cell? ⟨v1, 0, none⟩ = some (.bool xn) ∧ w'.cell? ⟨v1, 1, none⟩ = some (.slice xo xl xc)), (2, fun w' => w'.cell? ⟨v3, 0, none⟩ = some (.bool qn) ∧ w'.cell? ⟨v3, 1, none⟩ = some (.slice qo ql qc)), (7, fun w' => w'.cell? ⟨v1, 0, none⟩ = some (.bool xn) ∧ w'.cell? ⟨v1, 1, none⟩ = some (.slice xo xl xc)), (9, fun w' => w'.cell? ⟨v4, 0, none⟩ = some (.bool un) ∧ w'.cell? ⟨v4, 1, none⟩ = some (.slice uo ul uc))] (by kernel_rfl) ?_
    have hHeld : AllL W48.drew [(0, fun w' => w'.cell? ⟨v1, 0, none⟩ = some (.bool xn) ∧ w'.cell? ⟨v1, 1, none⟩ = some (.slice xo xl xc)), (2, fun w' => w'.cell? ⟨v3, 0, none⟩ = some (.bool qn) ∧ w'.cell? ⟨v3, 1, none⟩ = some (.slice qo ql qc)), (7, fun w' => w'.cell? ⟨v1, 0, none⟩ = some (.bool xn) ∧ w'.cell? ⟨v1, 1, none⟩ = some (.slice xo xl xc)), (9, fun w' => w'.cell? ⟨v4, 0, none⟩ = some (.bool un) ∧ w'.cell? ⟨v4, 1, none⟩ = some (.slice uo ul uc))] := ⟨(show ICell W48.drew (v1) xn (.slice xo xl xc) from p1).cells, (show ICell W48.drew (v3) qn (.slice qo ql qc) from p6).cells, (show ICell W48.drew (v1) xn (.slice xo xl xc) from p1).cells, (show ICell W48.drew (v4) un (.slice uo ul uc) from p8).cells, trivial⟩
    refine late_take 0 (v := .agg #[.bool xn, .slice xo xl xc]) rfl (by kernel_rfl) (List.Mem.head _) (by kernel_rfl) (by kernel_rfl) (by kernel_rfl) (by kernel_rfl) (fun _ _ _ h => h) (Or.inl ⟨by rfl, ?_⟩) hHeld ?_
    · (intro u hu; (try dsimp only at hu); go_split_ands; go_simp)
    (try simp only [Act.put, List.setIfInBounds_toArray, List.set_cons_zero, List.set_cons_succ])
    refine late_take 2 (v := .agg #[.bool qn, .slice qo ql qc]) rfl (by kernel_rfl) (List.Mem.tail _ (List.Mem.head _)) (by kernel_rfl) (by kernel_rfl) (by kernel_rfl) (by kernel_rfl) (fun _ _ _ h => h) (Or.inl ⟨by rfl, ?_⟩) hHeld ?_
    · (intro u hu; (try dsimp only at hu); go_split_ands; go_simp)
    (try simp only [Act.put, List.setIfInBounds_toArray, List.set_cons_zero, List.set_cons_succ])
    refine late_step 1 (by kernel_rfl) rfl (fun K hK => ?_)
    go_simp
    refine (lsize_any (ix.below (below_drew' _))).mono ?_
    rintro e w51 ⟨rfl, im76, b51⟩
    have B51 : Below W48.heap.size W48 w51 := bstep (below_drew' _) b51
    clear hHeld
    have hHeld : AllL w51 [(0, fun w' => w'.cell? ⟨v1, 0, none⟩ = some (.bool xn) ∧ w'.cell? ⟨v1, 1, none⟩ = some (.slice xo xl xc)), (2, fun w' => w'.cell? ⟨v3, 0, none⟩ = some (.bool qn) ∧ w'.cell? ⟨v3, 1, none⟩ = some (.slice qo ql qc)), (7, fun w' => w'.cell? ⟨v1, 0, none⟩ = some (.bool xn) ∧ w'.cell? ⟨v1, 1, none⟩ = some (.slice xo xl xc)), (9, fun w' => w'.cell? ⟨v4, 0, none⟩ = some (.bool un) ∧ w'.cell? ⟨v4, 1, none⟩ = some (.slice uo ul uc))] := ⟨(p1.below B51).cells, (p6.below B51).cells, (p1.below B51).cells, (p8.below B51).cells, trivial⟩
    go_wp2_with fail
    refine hK.out _ _ (AllL.kept hHeld) ?_
    clear hK K
    (try simp only [Act.put, List.setIfInBounds_toArray, List.set_cons_zero, List.set_cons_succ])
    refine late_step 3 (by kernel_rfl) rfl (fun K hK => ?_)
    go_simp
    refine (lsize_any ((iq.below (below_drew' _)).below b51)).mono ?_
    rintro e w52 ⟨rfl, im78, b52⟩
    have B52 : Below W48.heap.size W48 w52 := bstep B51 b52
    clear hHeld
    have hHeld : AllL w52 [(0, fun w' => w'.cell? ⟨v1, 0, none⟩ = some (.bool xn) ∧ w'.cell? ⟨v1, 1, none⟩ = some (.slice xo xl xc)), (2, fun w' => w'.cell? ⟨v3, 0, none⟩ = some (.bool qn) ∧ w'.cell? ⟨v3, 1, none⟩ = some (.slice qo ql qc)), (7, fun w' => w'.cell? ⟨v1, 0, none⟩ = some (.bool xn) ∧ w'.cell? ⟨v1, 1, none⟩ = some (.slice xo xl xc)), (9, fun w' => w'.cell? ⟨v4, 0, none⟩ = some (.bool un) ∧ w'.cell? ⟨v4, 1, none⟩ = some (.slice uo ul uc))] := ⟨(p1.below B52).cells, (p6.below B52).cells, (p1.below B52).cells, (p8.below B52).cells, trivial⟩
    go_wp2_with fail
    refine hK.out _ _ (AllL.kept hHeld) ?_
    clear hK K
    (try simp only [Act.put, List.setIfInBounds_toArray, List.set_cons_zero, List.set_cons_succ])
    refine late_step 4 (by kernel_rfl) rfl (fun K hK => ?_)
    go_simp
    refine (c_cmp (im76.below b52) im78).mono ?_
    rw [Hc1a.out]
    rintro e w53 ⟨rfl, b53⟩
    have B53 : Below W48.heap.size W48 w53 := bstep B52 b53
    clear hHeld
    have hHeld : AllL w53 [(0, fun w' => w'.cell? ⟨v1, 0, none⟩ = some (.bool xn) ∧ w'.cell? ⟨v1, 1, none⟩ = some (.slice xo xl xc)), (2, fun w' => w'.cell? ⟨v3, 0, none⟩ = some (.bool qn) ∧ w'.cell? ⟨v3, 1, none⟩ = some (.slice qo ql qc)), (7, fun w' => w'.cell? ⟨v1, 0, none⟩ = some (.bool xn) ∧ w'.cell? ⟨v1, 1, none⟩ = some (.slice xo xl xc)), (9, fun w' => w'.cell? ⟨v4, 0, none⟩ = some (.bool un) ∧ w'.cell? ⟨v4, 1, none⟩ = some (.slice uo ul uc))] := ⟨(p1.below B53).cells, (p6.below B53).cells, (p1.below B53).cells, (p8.below B53).cells, trivial⟩
    go_wp2_with fail
    refine hK.out _ _ (AllL.kept hHeld) ?_
    clear hK K
    (try simp only [Act.put, List.setIfInBounds_toArray, List.set_cons_zero, List.set_cons_succ])
    refine late_free 5 (v := .bool false) rfl (by kernel_rfl) (by kernel_rfl) (by kernel_rfl) (by kernel_rfl) (by kernel_rfl) (by kernel_rfl) (fun _ _ _ h => h) (Or.inl ⟨by rfl, ?_⟩) hHeld ?_
    · (intro u _; go_simp)
    (try simp only [Act.put, List.setIfInBounds_toArray, List.set_cons_zero, List.set_cons_succ])
    refine late_free 6 (v := .bool false) rfl (by kernel_rfl) (by kernel_rfl) (by kernel_rfl) (by kernel_rfl) (by kernel_rfl) (by kernel_rfl) (fun _ _ _ h => h) (Or.inl ⟨by rfl, ?_⟩) hHeld ?_
    · (intro u _; go_simp)
    (try simp only [Act.put, List.setIfInBounds_toArray, List.set_cons_zero, List.set_cons_succ])
    refine late_take 7 (v := .agg #[.bool xn, .slice xo xl xc]) rfl (by kernel_rfl) (List.Mem.tail _ (List.Mem.tail _ (List.Mem.head _))) (by kernel_rfl) (by kernel_rfl) (by kernel_rfl) (by kernel_rfl) (fun _ _ _ h => h) (Or.inl ⟨by rfl, ?_⟩) hHeld ?_
    · (intro u hu; (try dsimp only at hu); go_split_ands; go_simp)
    (try simp only [Act.put, List.setIfInBounds_toArray, List.set_cons_zero, List.set_cons_succ])
    refine late_take 9 (v := .agg #[.bool un, .slice uo ul uc]) rfl (by kernel_rfl) (List.Mem.tail _ (List.Mem.tail _ (List.Mem.tail _ (List.Mem.head _)))) (by kernel_rfl) (by kernel_rfl) (by kernel_rfl) (by kernel_rfl) (fun _ _ _ h => h) (Or.inl ⟨by rfl, ?_⟩) hHeld ?_
    · (intro u hu; (try dsimp only at hu); go_split_ands; go_simp)
    (try simp only [Act.put, List.setIfInBounds_toArray, List.set_cons_zero, List.set_cons_succ])
    refine late_step 8 (by kernel_rfl) rfl (fun K hK => ?_)
    go_simp
    refine (lsize_any ((((ix.below (below_drew' _)).below b51).below b52).below b53)).mono ?_
    rintro e w54 ⟨rfl, im83, b54⟩
    have B54 : Below W48.heap.size W48 w54 := bstep B53 b54
    clear hHeld
    have hHeld : AllL w54 [(0, fun w' => w'.cell? ⟨v1, 0, none⟩ = some (.bool xn) ∧ w'.cell? ⟨v1, 1, none⟩ = some (.slice xo xl xc)), (2, fun w' => w'.cell? ⟨v3, 0, none⟩ = some (.bool qn) ∧ w'.cell? ⟨v3, 1, none⟩ = some (.slice qo ql qc)), (7, fun w' => w'.cell? ⟨v1, 0, none⟩ = some (.bool xn) ∧ w'.cell? ⟨v1, 1, none⟩ = some (.slice xo xl xc)), (9, fun w' => w'.cell? ⟨v4, 0, none⟩ = some (.bool un) ∧ w'.cell? ⟨v4, 1, none⟩ = some (.slice uo ul uc))] := ⟨(p1.below B54).cells, (p6.below B54).cells, (p1.below B54).cells, (p8.below B54).cells, trivial⟩
    go_wp2_with fail
    refine hK.out _ _ (AllL.kept hHeld) ?_
    clear hK K
    (try simp only [Act.put, List.setIfInBounds_toArray, List.set_cons_zero, List.set_cons_succ])
    refine late_step 10 (by kernel_rfl) rfl (fun K hK => ?_)
    go_simp
    refine (c_cmp im83 (((((iu.below (below_drew' _)).below b51).below b52).below b53).below b54)).mono ?_
    rw [Hc1.out]
    rintro e w55 ⟨rfl, b55⟩
    have B55 : Below W48.heap.size W48 w55 := bstep B54 b55
    clear hHeld
    have hHeld : AllL w55 [(0, fun w' => w'.cell? ⟨v1, 0, none⟩ = some (.bool xn) ∧ w'.cell? ⟨v1, 1, none⟩ = some (.slice xo xl xc)), (2, fun w' => w'.cell? ⟨v3, 0, none⟩ = some (.bool qn) ∧ w'.cell? ⟨v3, 1, none⟩ = some (.slice qo ql qc)), (7, fun w' => w'.cell? ⟨v1, 0, none⟩ = some (.bool xn) ∧ w'.cell? ⟨v1, 1, none⟩ = some (.slice xo xl xc)), (9, fun w' => w'.cell? ⟨v4, 0, none⟩ = some (.bool un) ∧ w'.cell? ⟨v4, 1, none⟩ = some (.slice uo ul uc))] := ⟨(p1.below B55).cells, (p6.below B55).cells, (p1.below B55).cells, (p8.below B55).cells, trivial⟩
    go_wp2_with fail
    refine hK.out _ _ (AllL.kept hHeld) ?_
    clear hK K
    (try simp only [Act.put, List.setIfInBounds_toArray, List.set_cons_zero, List.set_cons_succ])
    refine late_free 11 (v := .bool true) rfl (by kernel_rfl) (by kernel_rfl) (by kernel_rfl) (by kernel_rfl) (by kernel_rfl) (by kernel_rfl) (fun _ _ _ h => h) (Or.inl ⟨by rfl, ?_⟩) hHeld ?_
    · (intro u _; go_simp)
    (try simp only [Act.put, List.setIfInBounds_toArray, List.set_cons_zero, List.set_cons_succ])
    refine late_free 12 (v := .bool true) rfl (by kernel_rfl) (by kernel_rfl) (by kernel_rfl) (by kernel_rfl) (by kernel_rfl) (by kernel_rfl) (fun _ _ _ h => h) (Or.inl ⟨by rfl, ?_⟩) hHeld ?_
    · (intro u _; go_simp)
    (try simp only [Act.put, List.setIfInBounds_toArray, List.set_cons_zero, List.set_cons_succ])
    refine late_step 13 (by kernel_rfl) rfl (fun K hK => ?_)
    go_simp
    refine hK.out _ _ ⟨Or.inl ⟨1, by kernel_rfl, by kernel_rfl⟩, Or.inl ⟨3, by kernel_rfl, by kernel_rfl⟩, Or.inl ⟨8, by kernel_rfl, by kernel_rfl⟩, Or.inl ⟨10, by kernel_rfl, by kernel_rfl⟩, trivial⟩ ?_
    clear hK K
    (try simp only [Act.put, List.setIfInBounds_toArray, List.set_cons_zero, List.set_cons_succ])
    refine late_done (by kernel_rfl) ?_ _
    clear hHeld
    have b := B55
    clear b51 b52 b53 b54 b55 B51 B52 B53 B54 B55
    replace ia := ia.below b
    replace ib := ib.below b
    replace ig := ig.below b
    replace ix := ix.below b
    replace iy := iy.below b
    replace ip := ip.below b
    replace ir := ir.below b
    replace iq := iq.below b
    replace is := is.below b
    replace iu := iu.below b
    replace q0 := q0.below b
    replace q1 := q1.below b
    replace p1 := p1.below b
    replace p2 := p2.below b
    replace p3 := p3.below b
    replace p4 := p4.below b
    replace p5 := p5.below b
    replace p6 := p6.below b
    replace p7 := p7.below b
    replace p8 := p8.below b
    replace hb := bstep hb b
    clear b
    clear im76 im78 im83
    go_wp2_with fail
    by_cases hl : Y.natAbs ≤ P.natAbs
    · obtain ⟨c2, hc2⟩ : ∃ c, c = cmpZ (Y.natAbs : Int) (P.natAbs : Int) := ⟨_, rfl⟩
      have Hc2 : Hid (cmpZ (Y.natAbs : Int) (P.natAbs : Int) = c2) := hc2.symm
      have c20 : c2 ≤ 0 := by rw [hc2]; exact cmp_le hl
      clear hc2 hl
      refine region_late [(0, fun w' => w'.cell? ⟨v1 + 1, 0, none⟩ = some (.bool yn) ∧ w'.cell? ⟨v1 + 1, 1, none⟩ = some (.slice yo yl yc)), (2, fun w' => w'.cell? ⟨v2, 0, none⟩ = some (.bool pn) ∧ w'.cell? ⟨v2, 1, none⟩ = some (.slice po pl pc))] (by kernel_rfl) ?_
      have hHeld : AllL w55.drew [(0, fun w' => w'.cell? ⟨v1 + 1, 0, none⟩ = some (.bool yn) ∧ w'.cell? ⟨v1 + 1, 1, none⟩ = some (.slice yo yl yc)), (2, fun w' => w'.cell? ⟨v2, 0, none⟩ = some (.bool pn) ∧ w'.cell? ⟨v2, 1, none⟩ = some (.slice po pl pc))] := ⟨(show ICell w55.drew (v1 + 1) yn (.slice yo yl yc) from p2).cells, (show ICell w55.drew (v2) pn (.slice po pl pc) from p4).cells, trivial⟩
      refine late_take 0 (v := .agg #[.bool yn, .slice yo yl yc]) rfl (by kernel_rfl) (List.Mem.head _) (by kernel_rfl) (by kernel_rfl) (by kernel_rfl) (by kernel_rfl) (fun _ _ _ h => h) (Or.inl ⟨by rfl, ?_⟩) hHeld ?_
      · (intro u hu; (try dsimp only at hu); go_split_ands; go_simp)
      (try simp only [Act.put, List.setIfInBounds_toArray, List.set_cons_zero, List.set_cons_succ])
      refine late_take 2 (v := .agg #[.bool pn, .slice po pl pc]) rfl (by kernel_rfl) (List.Mem.tail _ (List.Mem.head _)) (by kernel_rfl) (by kernel_rfl) (by kernel_rfl) (by kernel_rfl) (fun _ _ _ h => h) (Or.inl ⟨by rfl, ?_⟩) hHeld ?_
      · (intro u hu; (try dsimp only at hu); go_split_ands; go_simp)
      (try simp only [Act.put, List.setIfInBounds_toArray, List.set_cons_zero, List.set_cons_succ])
      refine late_step 1 (by kernel_rfl) rfl (fun K hK => ?_)
      go_simp
      refine (lsize_any (iy.below (below_drew' _))).mono ?_
      rintro e w56 ⟨rfl, im89, b56⟩
      have B56 : Below w55.heap.size w55 w56 := bstep (below_drew' _) b56
      clear hHeld
      have hHeld : AllL w56 [(0, fun w' => w'.cell? ⟨v1 + 1, 0, none⟩ = some (.bool yn) ∧ w'.cell? ⟨v1 + 1, 1, none⟩ = some (.slice yo yl yc)), (2, fun w' => w'.cell? ⟨v2, 0, none⟩ = some (.bool pn) ∧ w'.cell? ⟨v2, 1, none⟩ = some (.slice po pl pc))] := ⟨(p2.below B56).cells, (p4.below B56).cells, trivial⟩
      go_wp2_with fail
      refine hK.out _ _ (AllL.kept hHeld) ?_
      clear hK K
      (try simp only [Act.put, List.setIfInBounds_toArray, List.set_cons_zero, List.set_cons_succ])
      refine late_step 3 (by kernel_rfl) rfl (fun K hK => ?_)
      go_simp
      refine (lsize_any ((ip.below (below_drew' _)).below b56)).mono ?_
      rintro e w57 ⟨rfl, im91, b57⟩
      have B57 : Below w55.heap.size w55 w57 := bstep B56 b57
      clear hHeld
      have hHeld : AllL w57 [(0, fun w' => w'.cell? ⟨v1 + 1, 0, none⟩ = some (.bool yn) ∧ w'.cell? ⟨v1 + 1, 1, none⟩ = some (.slice yo yl yc)), (2, fun w' => w'.cell? ⟨v2, 0, none⟩ = some (.bool pn) ∧ w'.cell? ⟨v2, 1, none⟩ = some (.slice po pl pc))] := ⟨(p2.below B57).cells, (p4.below B57).cells, trivial⟩
      go_wp2_with fail
      refine hK.out _ _ (AllL.kept hHeld) ?_
      clear hK K
      (try simp only [Act.put, List.setIfInBounds_toArray, List.set_cons_zero, List.set_cons_succ])
      refine late_step 4 (by kernel_rfl) rfl (fun K hK => ?_)
      go_simp
      refine (c_cmp (im89.below b57) im91).mono ?_
      rw [Hc2.out]
      rintro e w58 ⟨rfl, b58⟩
      have B58 : Below w55.heap.size w55 w58 := bstep B57 b58
      clear hHeld
      have hHeld : AllL w58 [(0, fun w' => w'.cell? ⟨v1 + 1, 0, none⟩ = some (.bool yn) ∧ w'.cell? ⟨v1 + 1, 1, none⟩ = some (.slice yo yl yc)), (2, fun w' => w'.cell? ⟨v2, 0, none⟩ = some (.bool pn) ∧ w'.cell? ⟨v2, 1, none⟩ = some (.slice po pl pc))] := ⟨(p2.below B58).cells, (p4.below B58).cells, trivial⟩
      go_wp2_with fail
      refine hK.out _ _ (AllL.kept hHeld) ?_
      clear hK K
      (try simp only [Act.put, List.setIfInBounds_toArray, List.set_cons_zero, List.set_cons_succ])
      refine late_free 5 (v := .bool true) rfl (by kernel_rfl) (by kernel_rfl) (by kernel_rfl) (by kernel_rfl) (by kernel_rfl) (by kernel_rfl) (fun _ _ _ h => h) (Or.inl ⟨by rfl, ?_⟩) hHeld ?_
      · (intro u _; go_simp)
      (try simp only [Act.put, List.setIfInBounds_toArray, List.set_cons_zero, List.set_cons_succ])
      refine late_free 6 (v := .bool true) rfl (by kernel_rfl) (by kernel_rfl) (by kernel_rfl) (by kernel_rfl) (by kernel_rfl) (by kernel_rfl) (fun _ _ _ h => h) (Or.inl ⟨by rfl, ?_⟩) hHeld ?_
      · (intro u _; go_simp)
      (try simp only [Act.put, List.setIfInBounds_toArray, List.set_cons_zero, List.set_cons_succ])
      refine late_free 7 (v := undef) rfl (by kernel_rfl) (by kernel_rfl) (by kernel_rfl) (by kernel_rfl) (by kernel_rfl) (by kernel_rfl) (fun _ _ _ h => h) (Or.inr ⟨by rfl, rfl⟩) hHeld ?_
      (try simp only [Act.put, List.setIfInBounds_toArray, List.set_cons_zero, List.set_cons_succ])
      refine late_free 8 (v := undef) rfl (by kernel_rfl) (by kernel_rfl) (by kernel_rfl) (by kernel_rfl) (by kernel_rfl) (by kernel_rfl) (fun _ _ _ h => h) (Or.inr ⟨by rfl, rfl⟩) hHeld ?_
      (try simp only [Act.put, List.setIfInBounds_toArray, List.set_cons_zero, List.set_cons_succ])
      refine late_free 9 (v := undef) rfl (by kernel_rfl) (by kernel_rfl) (by kernel_rfl) (by kernel_rfl) (by kernel_rfl) (by kernel_rfl) (fun _ _ _ h => h) (Or.inr ⟨by rfl, rfl⟩) hHeld ?_
      (try simp only [Act.put, List.setIfInBounds_toArray, List.set_cons_zero, List.set_cons_succ])
      refine late_free 10 (v := undef) rfl (by kernel_rfl) (by kernel_rfl) (by kernel_rfl) (by kernel_rfl) (by kernel_rfl) (by kernel_rfl) (fun _ _ _ h => h) (Or.inr ⟨by rfl, rfl⟩) hHeld ?_
      (try simp only [Act.put, List.setIfInBounds_toArray, List.set_cons_zero, List.set_cons_succ])
      refine late_free 11 (v := undef) rfl (by kernel_rfl) (by kernel_rfl) (by kernel_rfl) (by kernel_rfl) (by kernel_rfl) (by kernel_rfl) (fun _ _ _ h => h) (Or.inr ⟨by rfl, rfl⟩) hHeld ?_
      (try simp only [Act.put, List.setIfInBounds_toArray, List.set_cons_zero, List.set_cons_succ])
      refine late_free 12 (v := .bool true) rfl (by kernel_rfl) (by kernel_rfl) (by kernel_rfl) (by kernel_rfl) (by kernel_rfl) (by kernel_rfl) (fun _ _ _ h => h) (Or.inl ⟨by rfl, ?_⟩) hHeld ?_
      · (intro u _; go_simp)
      (try simp only [Act.put, List.setIfInBounds_toArray, List.set_cons_zero, List.set_cons_succ])
      refine late_step 13 (by kernel_rfl) rfl (fun K hK => ?_)
      go_simp
      refine hK.out _ _ ⟨Or.inl ⟨1, by kernel_rfl, by kernel_rfl⟩, Or.inl ⟨3, by kernel_rfl, by kernel_rfl⟩, trivial⟩ ?_
      clear hK K
      (try simp only [Act.put, List.setIfInBounds_toArray, List.set_cons_zero, List.set_cons_succ])
      refine late_done (by kernel_rfl) ?_ _
      clear hHeld
      have b := B58
      clear b56 b57 b58 B56 B57 B58
      replace ia := ia.below b
      replace ib := ib.below b
      replace ig := ig.below b
      replace ix := ix.below b
      replace iy := iy.below b
      replace ip := ip.below b
      replace ir := ir.below b
      replace iq := iq.below b
      replace is := is.below b
      replace iu := iu.below b
      replace q0 := q0.below b
      replace q1 := q1.below b
      replace p1 := p1.below b
      replace p2 := p2.below b
      replace p3 := p3.below b
      replace p4 := p4.below b
      replace p5 := p5.below b
      replace p6 := p6.below b
      replace p7 := p7.below b
      replace p8 := p8.below b
      replace hb := bstep hb b
      clear b
      clear im89 im91
      obtain ⟨p5c, p5d⟩ := p5.cells
      go_wp2_with fail
      clear p5c p5d
      refine (c_sign ir).mono ?_
      rw [show cmpZ 0 0 = 0 from rfl]
      rintro e w98 ⟨rfl, b⟩
      replace ia := ia.below b
      replace ib := ib.below b
      replace ig := ig.below b
      replace ix := ix.below b
      replace iy := iy.below b
      replace ip := ip.below b
      replace ir := ir.below b
      replace iq := iq.below b
      replace is := is.below b
      replace iu := iu.below b
      replace q0 := q0.below b
      replace q1 := q1.below b
      replace p1 := p1.below b
      replace p2 := p2.below b
      replace p3 := p3.below b
      replace p4 := p4.below b
      replace p5 := p5.below b
      replace p6 := p6.below b
      replace p7 := p7.below b
      replace p8 := p8.below b
      replace hb := bstep hb b
      clear b
      obtain ⟨p7c, p7d⟩ := p7.cells
      go_wp2_with fail
      clear p7c p7d
      refine (c_sign is).mono ?_
      rw [show cmpZ 0 0 = 0 from rfl]
      rintro e w99 ⟨rfl, b⟩
      have HE : Hid (Below w1.heap.size w1 w99) := bstep hb b
      clear hb b ia ib ig ix iy ip ir iq is iu q0 q1 p1 p2 p3 p4 p5 p6 p7 p8
      go_wp2_with fail
      go_ret
      exact ⟨rfl, HE.out⟩
    · have hl1 : Y.natAbs ≤ 1 := HLY.out.resolve_left hl
      have Hc2a : Hid (cmpZ (Y.natAbs : Int) (P.natAbs : Int) = 1) := cmp_no hl
      obtain ⟨c2, hc2⟩ : ∃ c, c = cmpZ (Y.natAbs : Int) 1 := ⟨_, rfl⟩
      have Hc2 : Hid (cmpZ (Y.natAbs : Int) 1 = c2) := hc2.symm
      have c20 : c2 ≤ 0 := by rw [hc2]; exact cmp_le (y := 1) hl1
      clear hc2 hl hl1
      refine region_late [(0, fun w' => w'.cell? ⟨v1 + 1, 0, none⟩ = some (.bool yn) ∧ w'.cell? ⟨v1 + 1, 1, none⟩ = some (.slice yo yl yc)), (2, fun w' => w'.cell? ⟨v2, 0, none⟩ = some (.bool pn) ∧ w'.cell? ⟨v2, 1, none⟩ = some (.slice po pl pc)), (7, fun w' => w'.cell? ⟨v1 + 1, 0, none⟩ = some (.bool yn) ∧ w'.cell? ⟨v1 + 1, 1, none⟩ = some (.slice yo yl yc)), (9, fun w' => w'.cell? ⟨v4, 0, none⟩ = some (.bool un) ∧ w'.cell? ⟨v4, 1, none⟩ = some (.slice uo ul uc))] (by kernel_rfl) ?_
      have hHeld : AllL w55.drew [(0, fun w' => w'.cell? ⟨v1 + 1, 0, none⟩ = some (.bool yn) ∧ w'.cell? ⟨v1 + 1, 1, none⟩ = some (.slice yo yl yc)), (2, fun w' => w'.cell? ⟨v2, 0, none⟩ = some (.bool pn) ∧ w'.cell? ⟨v2, 1, none⟩ = some (.slice po pl pc)), (7, fun w' => w'.cell? ⟨v1 + 1, 0, none⟩ = some (.bool yn) ∧ w'.cell? ⟨v1 + 1, 1, none⟩ = some (.slice yo yl yc)), (9, fun w' => w'.cell? ⟨v4, 0, none⟩ = some (.bool un) ∧ w'.cell? ⟨v4, 1, none⟩ = some (.slice uo ul uc))] := ⟨(show ICell w55.drew (v1 + 1) yn (.slice yo yl yc) from p2).cells, (show ICell w55.drew (v2) pn (.slice po pl pc) from p4).cells, (show ICell w55.drew (v1 + 1) yn (.slice yo yl yc) from p2).cells, (show ICell w55.drew (v4) un (.slice uo ul uc) from p8).cells, trivial⟩
      refine late_take 0 (v := .agg #[.bool yn, .slice yo yl yc]) rfl (by kernel_rfl) (List.Mem.head _) (by kernel_rfl) (by kernel_rfl) (by kernel_rfl) (by kernel_rfl) (fun _ _ _ h => h) (Or.inl ⟨by rfl, ?_⟩) hHeld ?_
      · (intro u hu; (try dsimp only at hu); go_split_ands; go_simp)
      (try simp only [Act.put, List.setIfInBounds_toArray, List.set_cons_zero, List.set_cons_succ])
      refine late_take 2 (v := .agg #[.bool pn, .slice po pl pc]) rfl (by kernel_rfl) (List.Mem.tail _ (List.Mem.head _)) (by kernel_rfl) (by kernel_rfl) (by kernel_rfl) (by kernel_rfl) (fun _ _ _ h => h) (Or.inl ⟨by rfl, ?_⟩) hHeld ?_
      · (intro u hu; (try dsimp only at hu); go_split_ands; go_simp)
      (try simp only [Act.put, List.setIfInBounds_toArray, List.set_cons_zero, List.set_cons_succ])
      refine late_step 1 (by kernel_rfl) rfl (fun K hK => ?_)
      go_simp
      refine (lsize_any (iy.below (below_drew' _))).mono ?_
      rintro e w56 ⟨rfl, im89, b56⟩
      have B56 : Below w55.heap.size w55 w56 := bstep (below_drew' _) b56
      clear hHeld
      have hHeld : AllL w56 [(0, fun w' => w'.cell? ⟨v1 + 1, 0, none⟩ = some (.bool yn) ∧ w'.cell? ⟨v1 + 1, 1, none⟩ = some (.slice yo yl yc)), (2, fun w' => w'.cell? ⟨v2, 0, none⟩ = some (.bool pn) ∧ w'.cell? ⟨v2, 1, none⟩ = some (.slice po pl pc)), (7, fun w' => w'.cell? ⟨v1 + 1, 0, none⟩ = some (.bool yn) ∧ w'.cell? ⟨v1 + 1, 1, none⟩ = some (.slice yo yl yc)), (9, fun w' => w'.cell? ⟨v4, 0, none⟩ = some (.bool un) ∧ w'.cell? ⟨v4, 1, none⟩ = some (.slice uo ul uc))] := ⟨(p2.below B56).cells, (p4.below B56).cells, (p2.below B56).cells, (p8.below B56).cells, trivial⟩
      go_wp2_with fail
      refine hK.out _ _ (AllL.kept hHeld) ?_
      clear hK K
      (try simp only [Act.put, List.setIfInBounds_toArray, List.set_cons_zero, List.set_cons_succ])
      refine late_step 3 (by kernel_rfl) rfl (fun K hK => ?_)
      go_simp
      refine (lsize_any ((ip.below (below_drew' _)).below b56)).mono ?_
      rintro e w57 ⟨rfl, im91, b57⟩
      have B57 : Below w55.heap.size w55 w57 := bstep B56 b57
      clear hHeld
      have hHeld : AllL w57 [(0, fun w' => w'.cell? ⟨v1 + 1, 0, none⟩ = some (.bool yn) ∧ w'.cell? ⟨v1 + 1, 1, none⟩ = some (.slice yo yl yc)), (2, fun w' => w'.cell? ⟨v2, 0, none⟩ = some (.bool pn) ∧ w'.cell? ⟨v2, 1, none⟩ = some (.slice po pl pc)), (7, fun w' => w'.cell? ⟨v1 + 1, 0, none⟩ = some (.bool yn) ∧ w'.cell? ⟨v1 + 1, 1, none⟩ = some (.slice yo yl yc)), (9, fun w' => w'.cell? ⟨v4, 0, none⟩ = some (.bool un) ∧ w'.cell? ⟨v4, 1, none⟩ = some (.slice uo ul uc))] := ⟨(p2.below B57).cells, (p4.below B57).cells, (p2.below B57).cells, (p8.below B57).cells, trivial⟩
      go_wp2_with fail
      refine hK.out _ _ (AllL.kept hHeld) ?_
      clear hK K
      (try simp only [Act.put, List.setIfInBounds_toArray, List.set_cons_zero, List.set_cons_succ])
      refine late_step 4 (by kernel_rfl) rfl (fun K hK => ?_)
      go_simp
      refine (c_cmp (im89.below b57) im91).mono ?_
      rw [Hc2a.out]
      rintro e w58 ⟨rfl, b58⟩
      have B58 : Below w55.heap.size w55 w58 := bstep B57 b58
      clear hHeld
      have hHeld : AllL w58 [(0, fun w' => w'.cell? ⟨v1 + 1, 0, none⟩ = some (.bool yn) ∧ w'.cell? ⟨v1 + 1, 1, none⟩ = some (.slice yo yl yc)), (2, fun w' => w'.cell? ⟨v2, 0, none⟩ = some (.bool pn) ∧ w'.cell? ⟨v2, 1, none⟩ = some (.slice po pl pc)), (7, fun w' => w'.cell? ⟨v1 + 1, 0, none⟩ = some (.bool yn) ∧ w'.cell? ⟨v1 + 1, 1, none⟩ = some (.slice yo yl yc)), (9, fun w' => w'.cell? ⟨v4, 0, none⟩ = some (.bool un) ∧ w'.cell? ⟨v4, 1, none⟩ = some (.slice uo ul uc))] := ⟨(p2.below B58).cells, (p4.below B58).cells, (p2.below B58).cells, (p8.below B58).cells, trivial⟩
      go_wp2_with fail
      refine hK.out _ _ (AllL.kept hHeld) ?_
      clear hK K
      (try simp only [Act.put, List.setIfInBounds_toArray, List.set_cons_zero, List.set_cons_succ])
      refine late_free 5 (v := .bool false) rfl (by kernel_rfl) (by kernel_rfl) (by kernel_rfl) (by kernel_rfl) (by kernel_rfl) (by kernel_rfl) (fun _ _ _ h => h) (Or.inl ⟨by rfl, ?_⟩) hHeld ?_
      · (intro u _; go_simp)
      (try simp only [Act.put, List.setIfInBounds_toArray, List.set_cons_zero, List.set_cons_succ])
      refine late_free 6 (v := .bool false) rfl (by kernel_rfl) (by kernel_rfl) (by kernel_rfl) (by kernel_rfl) (by kernel_rfl) (by kernel_rfl) (fun _ _ _ h => h) (Or.inl ⟨by rfl, ?_⟩) hHeld ?_
      · (intro u _; go_simp)
      (try simp only [Act.put, List.setIfInBounds_toArray, List.set_cons_zero, List.set_cons_succ])
      refine late_take 7 (v := .agg #[.bool yn, .slice yo yl yc]) rfl (by kernel_rfl) (List.Mem.tail _ (List.Mem.tail _ (List.Mem.head _))) (by kernel_rfl) (by kernel_rfl) (by kernel_rfl) (by kernel_rfl) (fun _ _ _ h => h) (Or.inl ⟨by rfl, ?_⟩) hHeld ?_
      · (intro u hu; (try dsimp only at hu); go_split_ands; go_simp)
      (try simp only [Act.put, List.setIfInBounds_toArray, List.set_cons_zero, List.set_cons_succ])
      refine late_take 9 (v := .agg #[.bool un, .slice uo ul uc]) rfl (by kernel_rfl) (List.Mem.tail _ (List.Mem.tail _ (List.Mem.tail _ (List.Mem.head _)))) (by kernel_rfl) (by kernel_rfl) (by kernel_rfl) (by kernel_rfl) (fun _ _ _ h => h) (Or.inl ⟨by rfl, ?_⟩) hHeld ?_
      · (intro u hu; (try dsimp only at hu); go_split_ands; go_simp)
      (try simp only [Act.put, List.setIfInBounds_toArray, List.set_cons_zero, List.set_cons_succ])
      refine late_step 8 (by kernel_rfl) rfl (fun K hK => ?_)
      go_simp
      refine (lsize_any ((((iy.below (below_drew' _)).below b56).below b57).below b58)).mono ?_
      rintro e w59 ⟨rfl, im96, b59⟩
      have B59 : Below w55.heap.size w55 w59 := bstep B58 b59
      clear hHeld
      have hHeld : AllL w59 [(0, fun w' => w'.cell? ⟨v1 + 1, 0, none⟩ = some (.bool yn) ∧ w'.cell? ⟨v1 + 1, 1, none⟩ = some (.slice yo yl yc)), (2, fun w' => w'.cell? ⟨v2, 0, none⟩ = some (.bool pn) ∧ w'.cell? ⟨v2, 1, none⟩ = some (.slice po pl pc)), (7, fun w' => w'.cell? ⟨v1 + 1, 0, none⟩ = some (.bool yn) ∧ w'.cell? ⟨v1 + 1, 1, none⟩ = some (.slice yo yl yc)), (9, fun w' => w'.cell? ⟨v4, 0, none⟩ = some (.bool un) ∧ w'.cell? ⟨v4, 1, none⟩ = some (.slice uo ul uc))] := ⟨(p2.below B59).cells, (p4.below B59).cells, (p2.below B59).cells, (p8.below B59).cells, trivial⟩
      go_wp2_with fail
      refine hK.out _ _ (AllL.kept hHeld) ?_
      clear hK K
      (try simp only [Act.put, List.setIfInBounds_toArray, List.set_cons_zero, List.set_cons_succ])
      refine late_step 10 (by kernel_rfl) rfl (fun K hK => ?_)
      go_simp
      refine (c_cmp im96 (((((iu.below (below_drew' _)).below b56).below b57).below b58).below b59)).mono ?_
      rw [Hc2.out]
      rintro e w60 ⟨rfl, b60⟩
      have B60 : Below w55.heap.size w55 w60 := bstep B59 b60
      clear hHeld
      have hHeld : AllL w60 [(0, fun w' => w'.cell? ⟨v1 + 1, 0, none⟩ = some (.bool yn) ∧ w'.cell? ⟨v1 + 1, 1, none⟩ = some (.slice yo yl yc)), (2, fun w' => w'.cell? ⟨v2, 0, none⟩ = some (.bool pn) ∧ w'.cell? ⟨v2, 1, none⟩ = some (.slice po pl pc)), (7, fun w' => w'.cell? ⟨v1 + 1, 0, none⟩ = some (.bool yn) ∧ w'.cell? ⟨v1 + 1, 1, none⟩ = some (.slice yo yl yc)), (9, fun w' => w'.cell? ⟨v4, 0, none⟩ = some (.bool un) ∧ w'.cell? ⟨v4, 1, none⟩ = some (.slice uo ul uc))] := ⟨(p2.below B60).cells, (p4.below B60).cells, (p2.below B60).cells, (p8.below B60).cells, trivial⟩
      go_wp2_with fail
      refine hK.out _ _ (AllL.kept hHeld) ?_
      clear hK K
      (try simp only [Act.put, List.setIfInBounds_toArray, List.set_cons_zero, List.set_cons_succ])
      refine late_free 11 (v := .bool true) rfl (by kernel_rfl) (by kernel_rfl) (by kernel_rfl) (by kernel_rfl) (by kernel_rfl) (by kernel_rfl) (fun _ _ _ h => h) (Or.inl ⟨by rfl, ?_⟩) hHeld ?_
      · (intro u _; go_simp)
      (try simp only [Act.put, List.setIfInBounds_toArray, List.set_cons_zero, List.set_cons_succ])
      refine late_free 12 (v := .bool true) rfl (by kernel_rfl) (by kernel_rfl) (by kernel_rfl) (by kernel_rfl) (by kernel_rfl) (by kernel_rfl) (fun _ _ _ h => h) (Or.inl ⟨by rfl, ?_⟩) hHeld ?_
      · (intro u _; go_simp)
      (try simp only [Act.put, List.setIfInBounds_toArray, List.set_cons_zero, List.set_cons_succ])
      refine late_step 13 (by kernel_rfl) rfl (fun K hK => ?_)
      go_simp
      refine hK.out _ _ ⟨Or.inl ⟨1, by kernel_rfl, by kernel_rfl⟩, Or.inl ⟨3, by kernel_rfl, by kernel_rfl⟩, Or.inl ⟨8, by kernel_rfl, by kernel_rfl⟩, Or.inl ⟨10, by kernel_rfl, by kernel_rfl⟩, trivial⟩ ?_
      clear hK K
      (try simp only [Act.put, List.setIfInBounds_toArray, List.set_cons_zero, List.set_cons_succ])
      refine late_done (by kernel_rfl) ?_ _
      clear hHeld
      have b := B60
      clear b56 b57 b58 b59 b60 B56 B57 B58 B59 B60
      replace ia := ia.below b
      replace ib := ib.below b
      replace ig := ig.below b
      replace ix := ix.below b
      replace iy := iy.below b
      replace ip := ip.below b
      replace ir := ir.below b
      replace iq := iq.below b
      replace is := is.below b
      replace iu := iu.below b
      replace q0 := q0.below b
      replace q1 := q1.below b
      replace p1 := p1.below b
      replace p2 := p2.below b
      replace p3 := p3.below b
      replace p4 := p4.below b
      replace p5 := p5.below b
      replace p6 := p6.below b
      replace p7 := p7.below b
      replace p8 := p8.below b
      replace hb := bstep hb b
      clear b
      clear im89 im91 im96
      obtain ⟨p5c, p5d⟩ := p5.cells
      go_wp2_with fail
      clear p5c p5d
      refine (c_sign ir).mono ?_
      rw [show cmpZ 0 0 = 0 from rfl]
      rintro e w98 ⟨rfl, b⟩
      replace ia := ia.below b
      replace ib := ib.below b
      replace ig := ig.below b
      replace ix := ix.below b
      replace iy := iy.below b
      replace ip := ip.below b
      replace ir := ir.below b
      replace iq := iq.below b
      replace is := is.below b
      replace iu := iu.below b
      replace q0 := q0.below b
      replace q1 := q1.below b
      replace p1 := p1.below b
      replace p2 := p2.below b
      replace p3 := p3.below b
      replace p4 := p4.below b
      replace p5 := p5.below b
      replace p6 := p6.below b
      replace p7 := p7.below b
      replace p8 := p8.below b
      replace hb := bstep hb b
      clear b
      obtain ⟨p7c, p7d⟩ := p7.cells
      go_wp2_with fail
      clear p7c p7d
      refine (c_sign is).mono ?_
      rw [show cmpZ 0 0 = 0 from rfl]
      rintro e w99 ⟨rfl, b⟩
      have HE : Hid (Below w1.heap.size w1 w99) := bstep hb b
      clear hb b ia ib ig ix iy ip ir iq is iu q0 q1 p1 p2 p3 p4 p5 p6 p7 p8
      go_wp2_with fail
      go_ret
      exact ⟨rfl, HE.out⟩
end Go.Proofs.YtmcnpiajnehnlabDoor
