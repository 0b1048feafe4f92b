/-
  Proved here: WholeRing of any three numbers returns true, and writes nothing that was there.
-/
import Derived.Test.YtmcnpiajnehnlaaDoorWholeX3
namespace Go.Proofs.YtmcnpiajnehnlaaDoor
open Go.RowKit

set_option maxRecDepth 100000 in
set_option maxHeartbeats 12800000 in
theorem wholeRing_top (na : Bool) (ao : Option Addr) (al ac : Nat) (xa : List Nat) (nb : Bool) (bo : Option Addr) (bl bc : Nat) (xb : List Nat) (nc : Bool) (co : Option Addr) (cl cc : Nat) (xc : List Nat) (w1 : World) (ua : Num w1 (.slice ao al ac) xa) (ub : Num w1 (.slice bo bl bc) xb) (uc : Num w1 (.slice co cl cc) xc) :
    Calls Tryd.prog 5 #[.agg #[.bool na, .slice ao al ac], .agg #[.bool nb, .slice bo bl bc], .agg #[.bool nc, .slice co cl cc]] w1 fun e w' => e = .returned (.bool true) ∧ Below w1.heap.size w1 w' := by
  obtain ⟨W1, hW1⟩ : ∃ W1, W1 = ((w1.alloc (.cells #[.bool na, .slice ao al ac] 35)).alloc (.cells #[.bool nb, .slice bo bl bc] 35)).alloc (.cells #[.bool nc, .slice co cl cc] 35) := ⟨_, rfl⟩
  have q0 : ICell W1 (w1.heap.size) na (.slice ao al ac) := by rw [hW1]; exact (icell_step (icell_step (icell_new _ (by simp))))
  have q1 : ICell W1 (w1.heap.size + 1) nb (.slice bo bl bc) := by rw [hW1]; exact (icell_step (icell_new _ (by simp)))
  have q2 : ICell W1 (w1.heap.size + 1 + 1) nc (.slice co cl cc) := by rw [hW1]; exact (icell_new _ (by simp))
  have hb : Below w1.heap.size w1 W1 := by rw [hW1]; exact bstep (bstep (belowA w1 _) (belowA _ _)) (belowA _ _)
  replace ua := ua.below (Nat.le_refl _) hb
  replace ub := ub.below (Nat.le_refl _) hb
  replace uc := uc.below (Nat.le_refl _) hb
  have HW1 : Hid (W1 = ((w1.alloc (.cells #[.bool na, .slice ao al ac] 35)).alloc (.cells #[.bool nb, .slice bo bl bc] 35)).alloc (.cells #[.bool nc, .slice co cl cc] 35)) := hW1
  clear hW1
  obtain ⟨g, hg⟩ : ∃ g, g = w1.heap.size := ⟨_, rfl⟩
  rw [← hg] at q0 q1 q2
  have HG : Hid (g = w1.heap.size) := hg
  go_enter Tryd.func5, Tryd.ntmps5
  go_wp2_with fail
  rw [← HW1.out, ← hg]
  clear HW1 hg
  refine (walive_yes _).mono ?_
  rintro e w2 ⟨rfl, b⟩
  replace q0 := q0.below b
  replace q1 := q1.below b
  replace q2 := q2.below b
  replace hb := bstep hb b
  replace ua := ua.below (Nat.le_refl _) b
  replace ub := ub.below (Nat.le_refl _) b
  replace uc := uc.below (Nat.le_refl _) b
  clear b
  obtain ⟨c0, d0⟩ := q0.cells
  go_wp2_with fail
  refine (lbig_any _ _ _ _ _).mono ?_
  rintro e w3 ⟨rfl, b⟩
  clear c0 d0
  replace q0 := q0.below b
  replace q1 := q1.below b
  replace q2 := q2.below b
  replace hb := bstep hb b
  replace ua := ua.below (Nat.le_refl _) b
  replace ub := ub.below (Nat.le_refl _) b
  replace uc := uc.below (Nat.le_refl _) b
  clear b
  by_cases ta : 30 < al
  · rw [decide_eq_true ta]
    have HE : Hid (Below w1.heap.size w1 w3) := hb
    clear hb ua ub uc q0 q1 q2
    go_wp2_with fail
    go_ret
    exact ⟨rfl, HE.out⟩
  rw [decide_eq_false ta]
  obtain ⟨c1, d1⟩ := q1.cells
  go_wp2_with fail
  refine (lbig_any _ _ _ _ _).mono ?_
  rintro e w4 ⟨rfl, b⟩
  clear c1 d1
  replace q0 := q0.below b
  replace q1 := q1.below b
  replace q2 := q2.below b
  replace hb := bstep hb b
  replace ua := ua.below (Nat.le_refl _) b
  replace ub := ub.below (Nat.le_refl _) b
  replace uc := uc.below (Nat.le_refl _) b
  clear b
  by_cases tb : 30 < bl
  · rw [decide_eq_true tb]
    have HE : Hid (Below w1.heap.size w1 w4) := hb
    clear hb ua ub uc q0 q1 q2
    go_wp2_with fail
    go_ret
    exact ⟨rfl, HE.out⟩
  rw [decide_eq_false tb]
  obtain ⟨c2, d2⟩ := q2.cells
  go_wp2_with fail
  refine (lbig_any _ _ _ _ _).mono ?_
  rintro e w5 ⟨rfl, b⟩
  clear c2 d2
  replace q0 := q0.below b
  replace q1 := q1.below b
  replace q2 := q2.below b
  replace hb := bstep hb b
  replace ua := ua.below (Nat.le_refl _) b
  replace ub := ub.below (Nat.le_refl _) b
  replace uc := uc.below (Nat.le_refl _) b
  clear b
  by_cases tc : 30 < cl
  · rw [decide_eq_true tc]
    have HE : Hid (Below w1.heap.size w1 w5) := hb
    clear hb ua ub uc q0 q1 q2
    go_wp2_with fail
    go_ret
    exact ⟨rfl, HE.out⟩
  rw [decide_eq_false tc]
  obtain ⟨ia, sa⟩ := few (n := na) ua ta
  clear ua ta
  obtain ⟨A, hA⟩ : ∃ z, z = zv na (val xa) := ⟨_, rfl⟩
  rw [← hA] at ia sa
  clear hA
  obtain ⟨ib, sb⟩ := few (n := nb) ub tb
  clear ub tb
  obtain ⟨B, hB⟩ : ∃ z, z = zv nb (val xb) := ⟨_, rfl⟩
  rw [← hB] at ib sb
  clear hB
  obtain ⟨ic, sc⟩ := few (n := nc) uc tc
  clear uc tc
  obtain ⟨C, hC⟩ : ∃ z, z = zv nc (val xc) := ⟨_, rfl⟩
  rw [← hC] at ic sc
  clear hC
  go_wp2_with fail
  have zm24 : Sz (A + B) 31 := (sa.mono (by decide) : Sz _ 30).add (sb.mono (by decide) : Sz _ 30)
  have zm27 : Sz (B + A) 31 := (sb.mono (by decide) : Sz _ 30).add (sa.mono (by decide) : Sz _ 30)
  have Hb13 : Hid (decide (A + B = B + A) = true) := decide_eq_true (Int.add_comm _ _)
  have zm33 : Sz (A + B) 31 := (sa.mono (by decide) : Sz _ 30).add (sb.mono (by decide) : Sz _ 30)
  have zm35 : Sz ((A + B) + C) 32 := (zm33.mono (by decide) : Sz _ 31).add (sc.mono (by decide) : Sz _ 31)
  have zm39 : Sz (B + C) 31 := (sb.mono (by decide) : Sz _ 30).add (sc.mono (by decide) : Sz _ 30)
  have zm40 : Sz (A + (B + C)) 32 := (sa.mono (by decide) : Sz _ 31).add (zm39.mono (by decide) : Sz _ 31)
  have Hb18 : Hid (decide ((A + B) + C = A + (B + C)) = true) := decide_eq_true (Int.add_assoc _ _ _)
  refine region_late [(0, fun w' => w'.cell? ⟨g, 0, none⟩ = some (.bool na) ∧ w'.cell? ⟨g, 1, none⟩ = some (.slice ao al ac)), (1, fun w' => w'.cell? ⟨g + 1, 0, none⟩ = some (.bool nb) ∧ w'.cell? ⟨g + 1, 1, none⟩ = some (.slice bo bl bc)), (3, fun w' => w'.cell? ⟨g + 1, 0, none⟩ = some (.bool nb) ∧ w'.cell? ⟨g + 1, 1, none⟩ = some (.slice bo bl bc)), (4, fun w' => w'.cell? ⟨g, 0, none⟩ = some (.bool na) ∧ w'.cell? ⟨g, 1, none⟩ = some (.slice ao al ac)), (9, fun w' => w'.cell? ⟨g, 0, none⟩ = some (.bool na) ∧ w'.cell? ⟨g, 1, none⟩ = some (.slice ao al ac)), (10, fun w' => w'.cell? ⟨g + 1, 0, none⟩ = some (.bool nb) ∧ w'.cell? ⟨g + 1, 1, none⟩ = some (.slice bo bl bc)), (12, fun w' => w'.cell? ⟨g + 1 + 1, 0, none⟩ = some (.bool nc) ∧ w'.cell? ⟨g + 1 + 1, 1, none⟩ = some (.slice co cl cc)), (14, fun w' => w'.cell? ⟨g, 0, none⟩ = some (.bool na) ∧ w'.cell? ⟨g, 1, none⟩ = some (.slice ao al ac)), (15, fun w' => w'.cell? ⟨g + 1, 0, none⟩ = some (.bool nb) ∧ w'.cell? ⟨g + 1, 1, none⟩ = some (.slice bo bl bc)), (16, fun w' => w'.cell? ⟨g + 1 + 1, 0, none⟩ = some (.bool nc) ∧ w'.cell? ⟨g + 1 + 1, 1, none⟩ = some (.slice co cl cc))] (by kernel_rfl) ?_
  have hHeld : AllL w5.drew [(0, fun w' => w'.cell? ⟨g, 0, none⟩ = some (.bool na) ∧ w'.cell? ⟨g, 1, none⟩ = some (.slice ao al ac)), (1, fun w' => w'.cell? ⟨g + 1, 0, none⟩ = some (.bool nb) ∧ w'.cell? ⟨g + 1, 1, none⟩ = some (.slice bo bl bc)), (3, fun w' => w'.cell? ⟨g + 1, 0, none⟩ = some (.bool nb) ∧ w'.cell? ⟨g + 1, 1, none⟩ = some (.slice bo bl bc)), (4, fun w' => w'.cell? ⟨g, 0, none⟩ = some (.bool na) ∧ w'.cell? ⟨g, 1, none⟩ = some (.slice ao al ac)), (9, fun w' => w'.cell? ⟨g, 0, none⟩ = some (.bool na) ∧ w'.cell? ⟨g, 1, none⟩ = some (.slice ao al ac)), (10, fun w' => w'.cell? ⟨g + 1, 0, none⟩ = some (.bool nb) ∧ w'.cell? ⟨g + 1, 1, none⟩ = some (.slice bo bl bc)), (12, fun w' => w'.cell? ⟨g + 1 + 1, 0, none⟩ = some (.bool nc) ∧ w'.cell? ⟨g + 1 + 1, 1, none⟩ = some (.slice co cl cc)), (14, fun w' => w'.cell? ⟨g, 0, none⟩ = some (.bool na) ∧ w'.cell? ⟨g, 1, none⟩ = some (.slice ao al ac)), (15, fun w' => w'.cell? ⟨g + 1, 0, none⟩ = some (.bool nb) ∧ w'.cell? ⟨g + 1, 1, none⟩ = some (.slice bo bl bc)), (16, fun w' => w'.cell? ⟨g + 1 + 1, 0, none⟩ = some (.bool nc) ∧ w'.cell? ⟨g + 1 + 1, 1, none⟩ = some (.slice co cl cc))] := ⟨(show ICell w5.drew (g) na (.slice ao al ac) from q0).cells, (show ICell w5.drew (g + 1) nb (.slice bo bl bc) from q1).cells, (show ICell w5.drew (g + 1) nb (.slice bo bl bc) from q1).cells, (show ICell w5.drew (g) na (.slice ao al ac) from q0).cells, (show ICell w5.drew (g) na (.slice ao al ac) from q0).cells, (show ICell w5.drew (g + 1) nb (.slice bo bl bc) from q1).cells, (show ICell w5.drew (g + 1 + 1) nc (.slice co cl cc) from q2).cells, (show ICell w5.drew (g) na (.slice ao al ac) from q0).cells, (show ICell w5.drew (g + 1) nb (.slice bo bl bc) from q1).cells, (show ICell w5.drew (g + 1 + 1) nc (.slice co cl cc) from q2).cells, trivial⟩
  refine late_take 0 (v := .agg #[.bool na, .slice ao al ac]) rfl (by kernel_rfl) (List.Mem.head _) (by kernel_rfl) (by kernel_rfl) (by kernel_rfl) (by kernel_rfl) (fun _ _ _ h => h) (Or.inl ⟨by rfl, ?_⟩) hHeld ?_
  · (intro u hu; (try dsimp only at hu); go_split_ands; go_simp)
  (try simp only [Act.put, List.setIfInBounds_toArray, List.set_cons_zero, List.set_cons_succ])
  refine late_take 1 (v := .agg #[.bool nb, .slice bo bl bc]) rfl (by kernel_rfl) (List.Mem.tail _ (List.Mem.head _)) (by kernel_rfl) (by kernel_rfl) (by kernel_rfl) (by kernel_rfl) (fun _ _ _ h => h) (Or.inl ⟨by rfl, ?_⟩) hHeld ?_
  · (intro u hu; (try dsimp only at hu); go_split_ands; go_simp)
  (try simp only [Act.put, List.setIfInBounds_toArray, List.set_cons_zero, List.set_cons_succ])
  refine late_take 3 (v := .agg #[.bool nb, .slice bo bl bc]) rfl (by kernel_rfl) (List.Mem.tail _ (List.Mem.tail _ (List.Mem.head _))) (by kernel_rfl) (by kernel_rfl) (by kernel_rfl) (by kernel_rfl) (fun _ _ _ h => h) (Or.inl ⟨by rfl, ?_⟩) hHeld ?_
  · (intro u hu; (try dsimp only at hu); go_split_ands; go_simp)
  (try simp only [Act.put, List.setIfInBounds_toArray, List.set_cons_zero, List.set_cons_succ])
  refine late_take 4 (v := .agg #[.bool na, .slice ao al ac]) rfl (by kernel_rfl) (List.Mem.tail _ (List.Mem.tail _ (List.Mem.tail _ (List.Mem.head _)))) (by kernel_rfl) (by kernel_rfl) (by kernel_rfl) (by kernel_rfl) (fun _ _ _ h => h) (Or.inl ⟨by rfl, ?_⟩) hHeld ?_
  · (intro u hu; (try dsimp only at hu); go_split_ands; go_simp)
  (try simp only [Act.put, List.setIfInBounds_toArray, List.set_cons_zero, List.set_cons_succ])
  refine late_step 2 (by kernel_rfl) rfl (fun K hK => ?_)
  go_simp
  refine (c_add (ia.below (below_drew' _)) (ib.below (below_drew' _))).mono ?_
  rintro e w11 ⟨v, rfl, hv, b11⟩
  obtain ⟨m24n, m24o, m24l, m24c, rfl, im24⟩ := hv.see zm24 (by decide)
  clear hv
  have B11 : Below w5.heap.size w5 w11 := bstep (below_drew' _) b11
  clear hHeld
  have hHeld : AllL w11 [(0, fun w' => w'.cell? ⟨g, 0, none⟩ = some (.bool na) ∧ w'.cell? ⟨g, 1, none⟩ = some (.slice ao al ac)), (1, fun w' => w'.cell? ⟨g + 1, 0, none⟩ = some (.bool nb) ∧ w'.cell? ⟨g + 1, 1, none⟩ = some (.slice bo bl bc)), (3, fun w' => w'.cell? ⟨g + 1, 0, none⟩ = some (.bool nb) ∧ w'.cell? ⟨g + 1, 1, none⟩ = some (.slice bo bl bc)), (4, fun w' => w'.cell? ⟨g, 0, none⟩ = some (.bool na) ∧ w'.cell? ⟨g, 1, none⟩ = some (.slice ao al ac)), (9, fun w' => w'.cell? ⟨g, 0, none⟩ = some (.bool na) ∧ w'.cell? ⟨g, 1, none⟩ = some (.slice ao al ac)), (10, fun w' => w'.cell? ⟨g + 1, 0, none⟩ = some (.bool nb) ∧ w'.cell? ⟨g + 1, 1, none⟩ = some (.slice bo bl bc)), (12, fun w' => w'.cell? ⟨g + 1 + 1, 0, none⟩ = some (.bool nc) ∧ w'.cell? ⟨g + 1 + 1, 1, none⟩ = some (.slice co cl cc)), (14, fun w' => w'.cell? ⟨g, 0, none⟩ = some (.bool na) ∧ w'.cell? ⟨g, 1, none⟩ = some (.slice ao al ac)), (15, fun w' => w'.cell? ⟨g + 1, 0, none⟩ = some (.bool nb) ∧ w'.cell? ⟨g + 1, 1, none⟩ = some (.slice bo bl bc)), (16, fun w' => w'.cell? ⟨g + 1 + 1, 0, none⟩ = some (.bool nc) ∧ w'.cell? ⟨g + 1 + 1, 1, none⟩ = some (.slice co cl cc))] := ⟨(q0.below B11).cells, (q1.below B11).cells, (q1.below B11).cells, (q0.below B11).cells, (q0.below B11).cells, (q1.below B11).cells, (q2.below B11).cells, (q0.below B11).cells, (q1.below B11).cells, (q2.below B11).cells, trivial⟩
  go_wp2_with fail
  refine hK.out _ _ (AllL.kept hHeld) ?_
  clear hK K
  (try simp only [Act.put, List.setIfInBounds_toArray, List.set_cons_zero, List.set_cons_succ])
  refine late_step 5 (by kernel_rfl) rfl (fun K hK => ?_)
  go_simp
  refine (c_add ((ib.below (below_drew' _)).below b11) ((ia.below (below_drew' _)).below b11)).mono ?_
  rintro e w12 ⟨v, rfl, hv, b12⟩
  obtain ⟨m27n, m27o, m27l, m27c, rfl, im27⟩ := hv.see zm27 (by decide)
  clear hv
  have B12 : Below w5.heap.size w5 w12 := bstep B11 b12
  clear hHeld
  have hHeld : AllL w12 [(0, fun w' => w'.cell? ⟨g, 0, none⟩ = some (.bool na) ∧ w'.cell? ⟨g, 1, none⟩ = some (.slice ao al ac)), (1, fun w' => w'.cell? ⟨g + 1, 0, none⟩ = some (.bool nb) ∧ w'.cell? ⟨g + 1, 1, none⟩ = some (.slice bo bl bc)), (3, fun w' => w'.cell? ⟨g + 1, 0, none⟩ = some (.bool nb) ∧ w'.cell? ⟨g + 1, 1, none⟩ = some (.slice bo bl bc)), (4, fun w' => w'.cell? ⟨g, 0, none⟩ = some (.bool na) ∧ w'.cell? ⟨g, 1, none⟩ = some (.slice ao al ac)), (9, fun w' => w'.cell? ⟨g, 0, none⟩ = some (.bool na) ∧ w'.cell? ⟨g, 1, none⟩ = some (.slice ao al ac)), (10, fun w' => w'.cell? ⟨g + 1, 0, none⟩ = some (.bool nb) ∧ w'.cell? ⟨g + 1, 1, none⟩ = some (.slice bo bl bc)), (12, fun w' => w'.cell? ⟨g + 1 + 1, 0, none⟩ = some (.bool nc) ∧ w'.cell? ⟨g + 1 + 1, 1, none⟩ = some (.slice co cl cc)), (14, fun w' => w'.cell? ⟨g, 0, none⟩ = some (.bool na) ∧ w'.cell? ⟨g, 1, none⟩ = some (.slice ao al ac)), (15, fun w' => w'.cell? ⟨g + 1, 0, none⟩ = some (.bool nb) ∧ w'.cell? ⟨g + 1, 1, none⟩ = some (.slice bo bl bc)), (16, fun w' => w'.cell? ⟨g + 1 + 1, 0, none⟩ = some (.bool nc) ∧ w'.cell? ⟨g + 1 + 1, 1, none⟩ = some (.slice co cl cc))] := ⟨(q0.below B12).cells, (q1.below B12).cells, (q1.below B12).cells, (q0.below B12).cells, (q0.below B12).cells, (q1.below B12).cells, (q2.below B12).cells, (q0.below B12).cells, (q1.below B12).cells, (q2.below B12).cells, trivial⟩
  go_wp2_with fail
  refine hK.out _ _ (AllL.kept hHeld) ?_
  clear hK K
  (try simp only [Act.put, List.setIfInBounds_toArray, List.set_cons_zero, List.set_cons_succ])
  refine late_step 6 (by kernel_rfl) rfl (fun K hK => ?_)
  go_simp
  refine (lequal_any (im24.below b12) im27).mono ?_
  rw [Hb13.out]
  rintro e w13 ⟨rfl, b13⟩
  have B13 : Below w5.heap.size w5 w13 := bstep B12 b13
  clear hHeld
  have hHeld : AllL w13 [(0, fun w' => w'.cell? ⟨g, 0, none⟩ = some (.bool na) ∧ w'.cell? ⟨g, 1, none⟩ = some (.slice ao al ac)), (1, fun w' => w'.cell? ⟨g + 1, 0, none⟩ = some (.bool nb) ∧ w'.cell? ⟨g + 1, 1, none⟩ = some (.slice bo bl bc)), (3, fun w' => w'.cell? ⟨g + 1, 0, none⟩ = some (.bool nb) ∧ w'.cell? ⟨g + 1, 1, none⟩ = some (.slice bo bl bc)), (4, fun w' => w'.cell? ⟨g, 0, none⟩ = some (.bool na) ∧ w'.cell? ⟨g, 1, none⟩ = some (.slice ao al ac)), (9, fun w' => w'.cell? ⟨g, 0, none⟩ = some (.bool na) ∧ w'.cell? ⟨g, 1, none⟩ = some (.slice ao al ac)), (10, fun w' => w'.cell? ⟨g + 1, 0, none⟩ = some (.bool nb) ∧ w'.cell? ⟨g + 1, 1, none⟩ = some (.slice bo bl bc)), (12, fun w' => w'.cell? ⟨g + 1 + 1, 0, none⟩ = some (.bool nc) ∧ w'.cell? ⟨g + 1 + 1, 1, none⟩ = some (.slice co cl cc)), (14, fun w' => w'.cell? ⟨g, 0, none⟩ = some (.bool na) ∧ w'.cell? ⟨g, 1, none⟩ = some (.slice ao al ac)), (15, fun w' => w'.cell? ⟨g + 1, 0, none⟩ = some (.bool nb) ∧ w'.cell? ⟨g + 1, 1, none⟩ = some (.slice bo bl bc)), (16, fun w' => w'.cell? ⟨g + 1 + 1, 0, none⟩ = some (.bool nc) ∧ w'.cell? ⟨g + 1 + 1, 1, none⟩ = some (.slice co cl cc))] := ⟨(q0.below B13).cells, (q1.below B13).cells, (q1.below B13).cells, (q0.below B13).cells, (q0.below B13).cells, (q1.below B13).cells, (q2.below B13).cells, (q0.below B13).cells, (q1.below B13).cells, (q2.below B13).cells, trivial⟩
  go_wp2_with fail
  refine hK.out _ _ (AllL.kept hHeld) ?_
  clear hK K
  (try simp only [Act.put, List.setIfInBounds_toArray, List.set_cons_zero, List.set_cons_succ])
  refine late_free 7 (v := .bool false) rfl (by kernel_rfl) (by kernel_rfl) (by kernel_rfl) (by kernel_rfl) (by kernel_rfl) (by kernel_rfl) (fun _ _ _ h => h) (Or.inl ⟨by rfl, ?_⟩) hHeld ?_
  · (intro u _; go_simp)
  (try simp only [Act.put, List.setIfInBounds_toArray, List.set_cons_zero, List.set_cons_succ])
  refine late_free 8 (v := .bool false) rfl (by kernel_rfl) (by kernel_rfl) (by kernel_rfl) (by kernel_rfl) (by kernel_rfl) (by kernel_rfl) (fun _ _ _ h => h) (Or.inl ⟨by rfl, ?_⟩) hHeld ?_
  · (intro u _; go_simp)
  (try simp only [Act.put, List.setIfInBounds_toArray, List.set_cons_zero, List.set_cons_succ])
  refine late_take 9 (v := .agg #[.bool na, .slice ao al ac]) rfl (by kernel_rfl) (List.Mem.tail _ (List.Mem.tail _ (List.Mem.tail _ (List.Mem.tail _ (List.Mem.head _))))) (by kernel_rfl) (by kernel_rfl) (by kernel_rfl) (by kernel_rfl) (fun _ _ _ h => h) (Or.inl ⟨by rfl, ?_⟩) hHeld ?_
  · (intro u hu; (try dsimp only at hu); go_split_ands; go_simp)
  (try simp only [Act.put, List.setIfInBounds_toArray, List.set_cons_zero, List.set_cons_succ])
  refine late_take 10 (v := .agg #[.bool nb, .slice bo bl bc]) rfl (by kernel_rfl) (List.Mem.tail _ (List.Mem.tail _ (List.Mem.tail _ (List.Mem.tail _ (List.Mem.tail _ (List.Mem.head _)))))) (by kernel_rfl) (by kernel_rfl) (by kernel_rfl) (by kernel_rfl) (fun _ _ _ h => h) (Or.inl ⟨by rfl, ?_⟩) hHeld ?_
  · (intro u hu; (try dsimp only at hu); go_split_ands; go_simp)
  (try simp only [Act.put, List.setIfInBounds_toArray, List.set_cons_zero, List.set_cons_succ])
  refine late_take 12 (v := .agg #[.bool nc, .slice co cl cc]) rfl (by kernel_rfl) (List.Mem.tail _ (List.Mem.tail _ (List.Mem.tail _ (List.Mem.tail _ (List.Mem.tail _ (List.Mem.tail _ (List.Mem.head _))))))) (by kernel_rfl) (by kernel_rfl) (by kernel_rfl) (by kernel_rfl) (fun _ _ _ h => h) (Or.inl ⟨by rfl, ?_⟩) hHeld ?_
  · (intro u hu; (try dsimp only at hu); go_split_ands; go_simp)
  (try simp only [Act.put, List.setIfInBounds_toArray, List.set_cons_zero, List.set_cons_succ])
  refine late_take 14 (v := .agg #[.bool na, .slice ao al ac]) rfl (by kernel_rfl) (List.Mem.tail _ (List.Mem.tail _ (List.Mem.tail _ (List.Mem.tail _ (List.Mem.tail _ (List.Mem.tail _ (List.Mem.tail _ (List.Mem.head _)))))))) (by kernel_rfl) (by kernel_rfl) (by kernel_rfl) (by kernel_rfl) (fun _ _ _ h => h) (Or.inl ⟨by rfl, ?_⟩) hHeld ?_
  · (intro u hu; (try dsimp only at hu); go_split_ands; go_simp)
  (try simp only [Act.put, List.setIfInBounds_toArray, List.set_cons_zero, List.set_cons_succ])
  refine late_take 15 (v := .agg #[.bool nb, .slice bo bl bc]) rfl (by kernel_rfl) (List.Mem.tail _ (List.Mem.tail _ (List.Mem.tail _ (List.Mem.tail _ (List.Mem.tail _ (List.Mem.tail _ (List.Mem.tail _ (List.Mem.tail _ (List.Mem.head _))))))))) (by kernel_rfl) (by kernel_rfl) (by kernel_rfl) (by kernel_rfl) (fun _ _ _ h => h) (Or.inl ⟨by rfl, ?_⟩) hHeld ?_
  · (intro u hu; (try dsimp only at hu); go_split_ands; go_simp)
  (try simp only [Act.put, List.setIfInBounds_toArray, List.set_cons_zero, List.set_cons_succ])
  refine late_take 16 (v := .agg #[.bool nc, .slice co cl cc]) rfl (by kernel_rfl) (List.Mem.tail _ (List.Mem.tail _ (List.Mem.tail _ (List.Mem.tail _ (List.Mem.tail _ (List.Mem.tail _ (List.Mem.tail _ (List.Mem.tail _ (List.Mem.tail _ (List.Mem.head _)))))))))) (by kernel_rfl) (by kernel_rfl) (by kernel_rfl) (by kernel_rfl) (fun _ _ _ h => h) (Or.inl ⟨by rfl, ?_⟩) hHeld ?_
  · (intro u hu; (try dsimp only at hu); go_split_ands; go_simp)
  (try simp only [Act.put, List.setIfInBounds_toArray, List.set_cons_zero, List.set_cons_succ])
  refine late_step 11 (by kernel_rfl) rfl (fun K hK => ?_)
  go_simp
  refine (c_add ((((ia.below (below_drew' _)).below b11).below b12).below b13) ((((ib.below (below_drew' _)).below b11).below b12).below b13)).mono ?_
  rintro e w14 ⟨v, rfl, hv, b14⟩
  obtain ⟨m33n, m33o, m33l, m33c, rfl, im33⟩ := hv.see zm33 (by decide)
  clear hv
  have B14 : Below w5.heap.size w5 w14 := bstep B13 b14
  clear hHeld
  have hHeld : AllL w14 [(0, fun w' => w'.cell? ⟨g, 0, none⟩ = some (.bool na) ∧ w'.cell? ⟨g, 1, none⟩ = some (.slice ao al ac)), (1, fun w' => w'.cell? ⟨g + 1, 0, none⟩ = some (.bool nb) ∧ w'.cell? ⟨g + 1, 1, none⟩ = some (.slice bo bl bc)), (3, fun w' => w'.cell? ⟨g + 1, 0, none⟩ = some (.bool nb) ∧ w'.cell? ⟨g + 1, 1, none⟩ = some (.slice bo bl bc)), (4, fun w' => w'.cell? ⟨g, 0, none⟩ = some (.bool na) ∧ w'.cell? ⟨g, 1, none⟩ = some (.slice ao al ac)), (9, fun w' => w'.cell? ⟨g, 0, none⟩ = some (.bool na) ∧ w'.cell? ⟨g, 1, none⟩ = some (.slice ao al ac)), (10, fun w' => w'.cell? ⟨g + 1, 0, none⟩ = some (.bool nb) ∧ w'.cell? ⟨g + 1, 1, none⟩ = some (.slice bo bl bc)), (12, fun w' => w'.cell? ⟨g + 1 + 1, 0, none⟩ = some (.bool nc) ∧ w'.cell? ⟨g + 1 + 1, 1, none⟩ = some (.slice co cl cc)), (14, fun w' => w'.cell? ⟨g, 0, none⟩ = some (.bool na) ∧ w'.cell? ⟨g, 1, none⟩ = some (.slice ao al ac)), (15, fun w' => w'.cell? ⟨g + 1, 0, none⟩ = some (.bool nb) ∧ w'.cell? ⟨g + 1, 1, none⟩ = some (.slice bo bl bc)), (16, fun w' => w'.cell? ⟨g + 1 + 1, 0, none⟩ = some (.bool nc) ∧ w'.cell? ⟨g + 1 + 1, 1, none⟩ = some (.slice co cl cc))] := ⟨(q0.below B14).cells, (q1.below B14).cells, (q1.below B14).cells, (q0.below B14).cells, (q0.below B14).cells, (q1.below B14).cells, (q2.below B14).cells, (q0.below B14).cells, (q1.below B14).cells, (q2.below B14).cells, trivial⟩
  go_wp2_with fail
  refine hK.out _ _ (AllL.kept hHeld) ?_
  clear hK K
  (try simp only [Act.put, List.setIfInBounds_toArray, List.set_cons_zero, List.set_cons_succ])
  refine late_step 13 (by kernel_rfl) rfl (fun K hK => ?_)
  go_simp
  refine (c_add im33 (((((ic.below (below_drew' _)).below b11).below b12).below b13).below b14)).mono ?_
  rintro e w15 ⟨v, rfl, hv, b15⟩
  obtain ⟨m35n, m35o, m35l, m35c, rfl, im35⟩ := hv.see zm35 (by decide)
  clear hv
  have B15 : Below w5.heap.size w5 w15 := bstep B14 b15
  clear hHeld
  have hHeld : AllL w15 [(0, fun w' => w'.cell? ⟨g, 0, none⟩ = some (.bool na) ∧ w'.cell? ⟨g, 1, none⟩ = some (.slice ao al ac)), (1, fun w' => w'.cell? ⟨g + 1, 0, none⟩ = some (.bool nb) ∧ w'.cell? ⟨g + 1, 1, none⟩ = some (.slice bo bl bc)), (3, fun w' => w'.cell? ⟨g + 1, 0, none⟩ = some (.bool nb) ∧ w'.cell? ⟨g + 1, 1, none⟩ = some (.slice bo bl bc)), (4, fun w' => w'.cell? ⟨g, 0, none⟩ = some (.bool na) ∧ w'.cell? ⟨g, 1, none⟩ = some (.slice ao al ac)), (9, fun w' => w'.cell? ⟨g, 0, none⟩ = some (.bool na) ∧ w'.cell? ⟨g, 1, none⟩ = some (.slice ao al ac)), (10, fun w' => w'.cell? ⟨g + 1, 0, none⟩ = some (.bool nb) ∧ w'.cell? ⟨g + 1, 1, none⟩ = some (.slice bo bl bc)), (12, fun w' => w'.cell? ⟨g + 1 + 1, 0, none⟩ = some (.bool nc) ∧ w'.cell? ⟨g + 1 + 1, 1, none⟩ = some (.slice co cl cc)), (14, fun w' => w'.cell? ⟨g, 0, none⟩ = some (.bool na) ∧ w'.cell? ⟨g, 1, none⟩ = some (.slice ao al ac)), (15, fun w' => w'.cell? ⟨g + 1, 0, none⟩ = some (.bool nb) ∧ w'.cell? ⟨g + 1, 1, none⟩ = some (.slice bo bl bc)), (16, fun w' => w'.cell? ⟨g + 1 + 1, 0, none⟩ = some (.bool nc) ∧ w'.cell? ⟨g + 1 + 1, 1, none⟩ = some (.slice co cl cc))] := ⟨(q0.below B15).cells, (q1.below B15).cells, (q1.below B15).cells, (q0.below B15).cells, (q0.below B15).cells, (q1.below B15).cells, (q2.below B15).cells, (q0.below B15).cells, (q1.below B15).cells, (q2.below B15).cells, trivial⟩
  go_wp2_with fail
  refine hK.out _ _ (AllL.kept hHeld) ?_
  clear hK K
  (try simp only [Act.put, List.setIfInBounds_toArray, List.set_cons_zero, List.set_cons_succ])
  refine late_step 17 (by kernel_rfl) rfl (fun K hK => ?_)
  go_simp
  refine (c_add ((((((ib.below (below_drew' _)).below b11).below b12).below b13).below b14).below b15) ((((((ic.below (below_drew' _)).below b11).below b12).below b13).below b14).below b15)).mono ?_
  rintro e w16 ⟨v, rfl, hv, b16⟩
  obtain ⟨m39n, m39o, m39l, m39c, rfl, im39⟩ := hv.see zm39 (by decide)
  clear hv
  have B16 : Below w5.heap.size w5 w16 := bstep B15 b16
  clear hHeld
  have hHeld : AllL w16 [(0, fun w' => w'.cell? ⟨g, 0, none⟩ = some (.bool na) ∧ w'.cell? ⟨g, 1, none⟩ = some (.slice ao al ac)), (1, fun w' => w'.cell? ⟨g + 1, 0, none⟩ = some (.bool nb) ∧ w'.cell? ⟨g + 1, 1, none⟩ = some (.slice bo bl bc)), (3, fun w' => w'.cell? ⟨g + 1, 0, none⟩ = some (.bool nb) ∧ w'.cell? ⟨g + 1, 1, none⟩ = some (.slice bo bl bc)), (4, fun w' => w'.cell? ⟨g, 0, none⟩ = some (.bool na) ∧ w'.cell? ⟨g, 1, none⟩ = some (.slice ao al ac)), (9, fun w' => w'.cell? ⟨g, 0, none⟩ = some (.bool na) ∧ w'.cell? ⟨g, 1, none⟩ = some (.slice ao al ac)), (10, fun w' => w'.cell? ⟨g + 1, 0, none⟩ = some (.bool nb) ∧ w'.cell? ⟨g + 1, 1, none⟩ = some (.slice bo bl bc)), (12, fun w' => w'.cell? ⟨g + 1 + 1, 0, none⟩ = some (.bool nc) ∧ w'.cell? ⟨g + 1 + 1, 1, none⟩ = some (.slice co cl cc)), (14, fun w' => w'.cell? ⟨g, 0, none⟩ = some (.bool na) ∧ w'.cell? ⟨g, 1, none⟩ = some (.slice ao al ac)), (15, fun w' => w'.cell? ⟨g + 1, 0, none⟩ = some (.bool nb) ∧ w'.cell? ⟨g + 1, 1, none⟩ = some (.slice bo bl bc)), (16, fun w' => w'.cell? ⟨g + 1 + 1, 0, none⟩ = some (.bool nc) ∧ w'.cell? ⟨g + 1 + 1, 1, none⟩ = some (.slice co cl cc))] := ⟨(q0.below B16).cells, (q1.below B16).cells, (q1.below B16).cells, (q0.below B16).cells, (q0.below B16).cells, (q1.below B16).cells, (q2.below B16).cells, (q0.below B16).cells, (q1.below B16).cells, (q2.below B16).cells, trivial⟩
  go_wp2_with fail
  refine hK.out _ _ (AllL.kept hHeld) ?_
  clear hK K
  (try simp only [Act.put, List.setIfInBounds_toArray, List.set_cons_zero, List.set_cons_succ])
  refine late_step 18 (by kernel_rfl) rfl (fun K hK => ?_)
  go_simp
  refine (c_add (((((((ia.below (below_drew' _)).below b11).below b12).below b13).below b14).below b15).below b16) im39).mono ?_
  rintro e w17 ⟨v, rfl, hv, b17⟩
  obtain ⟨m40n, m40o, m40l, m40c, rfl, im40⟩ := hv.see zm40 (by decide)
  clear hv
  have B17 : Below w5.heap.size w5 w17 := bstep B16 b17
  clear hHeld
  have hHeld : AllL w17 [(0, fun w' => w'.cell? ⟨g, 0, none⟩ = some (.bool na) ∧ w'.cell? ⟨g, 1, none⟩ = some (.slice ao al ac)), (1, fun w' => w'.cell? ⟨g + 1, 0, none⟩ = some (.bool nb) ∧ w'.cell? ⟨g + 1, 1, none⟩ = some (.slice bo bl bc)), (3, fun w' => w'.cell? ⟨g + 1, 0, none⟩ = some (.bool nb) ∧ w'.cell? ⟨g + 1, 1, none⟩ = some (.slice bo bl bc)), (4, fun w' => w'.cell? ⟨g, 0, none⟩ = some (.bool na) ∧ w'.cell? ⟨g, 1, none⟩ = some (.slice ao al ac)), (9, fun w' => w'.cell? ⟨g, 0, none⟩ = some (.bool na) ∧ w'.cell? ⟨g, 1, none⟩ = some (.slice ao al ac)), (10, fun w' => w'.cell? ⟨g + 1, 0, none⟩ = some (.bool nb) ∧ w'.cell? ⟨g + 1, 1, none⟩ = some (.slice bo bl bc)), (12, fun w' => w'.cell? ⟨g + 1 + 1, 0, none⟩ = some (.bool nc) ∧ w'.cell? ⟨g + 1 + 1, 1, none⟩ = some (.slice co cl cc)), (14, fun w' => w'.cell? ⟨g, 0, none⟩ = some (.bool na) ∧ w'.cell? ⟨g, 1, none⟩ = some (.slice ao al ac)), (15, fun w' => w'.cell? ⟨g + 1, 0, none⟩ = some (.bool nb) ∧ w'.cell? ⟨g + 1, 1, none⟩ = some (.slice bo bl bc)), (16, fun w' => w'.cell? ⟨g + 1 + 1, 0, none⟩ = some (.bool nc) ∧ w'.cell? ⟨g + 1 + 1, 1, none⟩ = some (.slice co cl cc))] := ⟨(q0.below B17).cells, (q1.below B17).cells, (q1.below B17).cells, (q0.below B17).cells, (q0.below B17).cells, (q1.below B17).cells, (q2.below B17).cells, (q0.below B17).cells, (q1.below B17).cells, (q2.below B17).cells, trivial⟩
  go_wp2_with fail
  refine hK.out _ _ (AllL.kept hHeld) ?_
  clear hK K
  (try simp only [Act.put, List.setIfInBounds_toArray, List.set_cons_zero, List.set_cons_succ])
  refine late_step 19 (by kernel_rfl) rfl (fun K hK => ?_)
  go_simp
  refine (lequal_any ((im35.below b16).below b17) im40).mono ?_
  rw [Hb18.out]
  rintro e w18 ⟨rfl, b18⟩
  have B18 : Below w5.heap.size w5 w18 := bstep B17 b18
  clear hHeld
  have hHeld : AllL w18 [(0, fun w' => w'.cell? ⟨g, 0, none⟩ = some (.bool na) ∧ w'.cell? ⟨g, 1, none⟩ = some (.slice ao al ac)), (1, fun w' => w'.cell? ⟨g + 1, 0, none⟩ = some (.bool nb) ∧ w'.cell? ⟨g + 1, 1, none⟩ = some (.slice bo bl bc)), (3, fun w' => w'.cell? ⟨g + 1, 0, none⟩ = some (.bool nb) ∧ w'.cell? ⟨g + 1, 1, none⟩ = some (.slice bo bl bc)), (4, fun w' => w'.cell? ⟨g, 0, none⟩ = some (.bool na) ∧ w'.cell? ⟨g, 1, none⟩ = some (.slice ao al ac)), (9, fun w' => w'.cell? ⟨g, 0, none⟩ = some (.bool na) ∧ w'.cell? ⟨g, 1, none⟩ = some (.slice ao al ac)), (10, fun w' => w'.cell? ⟨g + 1, 0, none⟩ = some (.bool nb) ∧ w'.cell? ⟨g + 1, 1, none⟩ = some (.slice bo bl bc)), (12, fun w' => w'.cell? ⟨g + 1 + 1, 0, none⟩ = some (.bool nc) ∧ w'.cell? ⟨g + 1 + 1, 1, none⟩ = some (.slice co cl cc)), (14, fun w' => w'.cell? ⟨g, 0, none⟩ = some (.bool na) ∧ w'.cell? ⟨g, 1, none⟩ = some (.slice ao al ac)), (15, fun w' => w'.cell? ⟨g + 1, 0, none⟩ = some (.bool nb) ∧ w'.cell? ⟨g + 1, 1, none⟩ = some (.slice bo bl bc)), (16, fun w' => w'.cell? ⟨g + 1 + 1, 0, none⟩ = some (.bool nc) ∧ w'.cell? ⟨g + 1 + 1, 1, none⟩ = some (.slice co cl cc))] := ⟨(q0.below B18).cells, (q1.below B18).cells, (q1.below B18).cells, (q0.below B18).cells, (q0.below B18).cells, (q1.below B18).cells, (q2.below B18).cells, (q0.below B18).cells, (q1.below B18).cells, (q2.below B18).cells, trivial⟩
  go_wp2_with fail
  refine hK.out _ _ (AllL.kept hHeld) ?_
  clear hK K
  (try simp only [Act.put, List.setIfInBounds_toArray, List.set_cons_zero, List.set_cons_succ])
  refine late_free 20 (v := .bool false) rfl (by kernel_rfl) (by kernel_rfl) (by kernel_rfl) (by kernel_rfl) (by kernel_rfl) (by kernel_rfl) (fun _ _ _ h => h) (Or.inl ⟨by rfl, ?_⟩) hHeld ?_
  · (intro u _; go_simp)
  (try simp only [Act.put, List.setIfInBounds_toArray, List.set_cons_zero, List.set_cons_succ])
  refine late_free 21 (v := .bool false) rfl (by kernel_rfl) (by kernel_rfl) (by kernel_rfl) (by kernel_rfl) (by kernel_rfl) (by kernel_rfl) (fun _ _ _ h => h) (Or.inl ⟨by rfl, ?_⟩) hHeld ?_
  · (intro u _; go_simp)
  (try simp only [Act.put, List.setIfInBounds_toArray, List.set_cons_zero, List.set_cons_succ])
  refine late_done (by kernel_rfl) ?_ _
  clear hHeld
  have b := B18
  clear b11 b12 b13 b14 b15 b16 b17 b18 B11 B12 B13 B14 B15 B16 B17 B18
  replace ia := ia.below b
  replace ib := ib.below b
  replace ic := ic.below b
  replace q0 := q0.below b
  replace q1 := q1.below b
  replace q2 := q2.below b
  replace hb := bstep hb b
  clear b
  clear im24 im27 im33 im35 im39 im40
  go_wp2_with fail
  have zm46 : Sz (A * B) 60 := sa.mul sb
  have zm49 : Sz (B * A) 60 := sb.mul sa
  have Hb21 : Hid (decide (A * B = B * A) = true) := decide_eq_true (Int.mul_comm _ _)
  have zm55 : Sz (A * B) 60 := sa.mul sb
  have zm57 : Sz ((A * B) * C) 90 := zm55.mul sc
  have zm61 : Sz (B * C) 60 := sb.mul sc
  have zm62 : Sz (A * (B * C)) 90 := sa.mul zm61
  have Hb26 : Hid (decide ((A * B) * C = A * (B * C)) = true) := decide_eq_true (Int.mul_assoc _ _ _)
  refine region_late [(0, fun w' => w'.cell? ⟨g, 0, none⟩ = some (.bool na) ∧ w'.cell? ⟨g, 1, none⟩ = some (.slice ao al ac)), (1, fun w' => w'.cell? ⟨g + 1, 0, none⟩ = some (.bool nb) ∧ w'.cell? ⟨g + 1, 1, none⟩ = some (.slice bo bl bc)), (3, fun w' => w'.cell? ⟨g + 1, 0, none⟩ = some (.bool nb) ∧ w'.cell? ⟨g + 1, 1, none⟩ = some (.slice bo bl bc)), (4, fun w' => w'.cell? ⟨g, 0, none⟩ = some (.bool na) ∧ w'.cell? ⟨g, 1, none⟩ = some (.slice ao al ac)), (9, fun w' => w'.cell? ⟨g, 0, none⟩ = some (.bool na) ∧ w'.cell? ⟨g, 1, none⟩ = some (.slice ao al ac)), (10, fun w' => w'.cell? ⟨g + 1, 0, none⟩ = some (.bool nb) ∧ w'.cell? ⟨g + 1, 1, none⟩ = some (.slice bo bl bc)), (12, fun w' => w'.cell? ⟨g + 1 + 1, 0, none⟩ = some (.bool nc) ∧ w'.cell? ⟨g + 1 + 1, 1, none⟩ = some (.slice co cl cc)), (14, fun w' => w'.cell? ⟨g, 0, none⟩ = some (.bool na) ∧ w'.cell? ⟨g, 1, none⟩ = some (.slice ao al ac)), (15, fun w' => w'.cell? ⟨g + 1, 0, none⟩ = some (.bool nb) ∧ w'.cell? ⟨g + 1, 1, none⟩ = some (.slice bo bl bc)), (16, fun w' => w'.cell? ⟨g + 1 + 1, 0, none⟩ = some (.bool nc) ∧ w'.cell? ⟨g + 1 + 1, 1, none⟩ = some (.slice co cl cc))] (by kernel_rfl) ?_
  have hHeld : AllL w18.drew [(0, fun w' => w'.cell? ⟨g, 0, none⟩ = some (.bool na) ∧ w'.cell? ⟨g, 1, none⟩ = some (.slice ao al ac)), (1, fun w' => w'.cell? ⟨g + 1, 0, none⟩ = some (.bool nb) ∧ w'.cell? ⟨g + 1, 1, none⟩ = some (.slice bo bl bc)), (3, fun w' => w'.cell? ⟨g + 1, 0, none⟩ = some (.bool nb) ∧ w'.cell? ⟨g + 1, 1, none⟩ = some (.slice bo bl bc)), (4, fun w' => w'.cell? ⟨g, 0, none⟩ = some (.bool na) ∧ w'.cell? ⟨g, 1, none⟩ = some (.slice ao al ac)), (9, fun w' => w'.cell? ⟨g, 0, none⟩ = some (.bool na) ∧ w'.cell? ⟨g, 1, none⟩ = some (.slice ao al ac)), (10, fun w' => w'.cell? ⟨g + 1, 0, none⟩ = some (.bool nb) ∧ w'.cell? ⟨g + 1, 1, none⟩ = some (.slice bo bl bc)), (12, fun w' => w'.cell? ⟨g + 1 + 1, 0, none⟩ = some (.bool nc) ∧ w'.cell? ⟨g + 1 + 1, 1, none⟩ = some (.slice co cl cc)), (14, fun w' => w'.cell? ⟨g, 0, none⟩ = some (.bool na) ∧ w'.cell? ⟨g, 1, none⟩ = some (.slice ao al ac)), (15, fun w' => w'.cell? ⟨g + 1, 0, none⟩ = some (.bool nb) ∧ w'.cell? ⟨g + 1, 1, none⟩ = some (.slice bo bl bc)), (16, fun w' => w'.cell? ⟨g + 1 + 1, 0, none⟩ = some (.bool nc) ∧ w'.cell? ⟨g + 1 + 1, 1, none⟩ = some (.slice co cl cc))] := ⟨(show ICell w18.drew (g) na (.slice ao al ac) from q0).cells, (show ICell w18.drew (g + 1) nb (.slice bo bl bc) from q1).cells, (show ICell w18.drew (g + 1) nb (.slice bo bl bc) from q1).cells, (show ICell w18.drew (g) na (.slice ao al ac) from q0).cells, (show ICell w18.drew (g) na (.slice ao al ac) from q0).cells, (show ICell w18.drew (g + 1) nb (.slice bo bl bc) from q1).cells, (show ICell w18.drew (g + 1 + 1) nc (.slice co cl cc) from q2).cells, (show ICell w18.drew (g) na (.slice ao al ac) from q0).cells, (show ICell w18.drew (g + 1) nb (.slice bo bl bc) from q1).cells, (show ICell w18.drew (g + 1 + 1) nc (.slice co cl cc) from q2).cells, trivial⟩
  refine late_take 0 (v := .agg #[.bool na, .slice ao al ac]) rfl (by kernel_rfl) (List.Mem.head _) (by kernel_rfl) (by kernel_rfl) (by kernel_rfl) (by kernel_rfl) (fun _ _ _ h => h) (Or.inl ⟨by rfl, ?_⟩) hHeld ?_
  · (intro u hu; (try dsimp only at hu); go_split_ands; go_simp)
  (try simp only [Act.put, List.setIfInBounds_toArray, List.set_cons_zero, List.set_cons_succ])
  refine late_take 1 (v := .agg #[.bool nb, .slice bo bl bc]) rfl (by kernel_rfl) (List.Mem.tail _ (List.Mem.head _)) (by kernel_rfl) (by kernel_rfl) (by kernel_rfl) (by kernel_rfl) (fun _ _ _ h => h) (Or.inl ⟨by rfl, ?_⟩) hHeld ?_
  · (intro u hu; (try dsimp only at hu); go_split_ands; go_simp)
  (try simp only [Act.put, List.setIfInBounds_toArray, List.set_cons_zero, List.set_cons_succ])
  refine late_take 3 (v := .agg #[.bool nb, .slice bo bl bc]) rfl (by kernel_rfl) (List.Mem.tail _ (List.Mem.tail _ (List.Mem.head _))) (by kernel_rfl) (by kernel_rfl) (by kernel_rfl) (by kernel_rfl) (fun _ _ _ h => h) (Or.inl ⟨by rfl, ?_⟩) hHeld ?_
  · (intro u hu; (try dsimp only at hu); go_split_ands; go_simp)
  (try simp only [Act.put, List.setIfInBounds_toArray, List.set_cons_zero, List.set_cons_succ])
  refine late_take 4 (v := .agg #[.bool na, .slice ao al ac]) rfl (by kernel_rfl) (List.Mem.tail _ (List.Mem.tail _ (List.Mem.tail _ (List.Mem.head _)))) (by kernel_rfl) (by kernel_rfl) (by kernel_rfl) (by kernel_rfl) (fun _ _ _ h => h) (Or.inl ⟨by rfl, ?_⟩) hHeld ?_
  · (intro u hu; (try dsimp only at hu); go_split_ands; go_simp)
  (try simp only [Act.put, List.setIfInBounds_toArray, List.set_cons_zero, List.set_cons_succ])
  refine late_step 2 (by kernel_rfl) rfl (fun K hK => ?_)
  go_simp
  refine (c_mul (ia.below (below_drew' _)) (ib.below (below_drew' _))).mono ?_
  rintro e w19 ⟨v, rfl, hv, b19⟩
  obtain ⟨m46n, m46o, m46l, m46c, rfl, im46⟩ := hv.see zm46 (by decide)
  clear hv
  have B19 : Below w18.heap.size w18 w19 := bstep (below_drew' _) b19
  clear hHeld
  have hHeld : AllL w19 [(0, fun w' => w'.cell? ⟨g, 0, none⟩ = some (.bool na) ∧ w'.cell? ⟨g, 1, none⟩ = some (.slice ao al ac)), (1, fun w' => w'.cell? ⟨g + 1, 0, none⟩ = some (.bool nb) ∧ w'.cell? ⟨g + 1, 1, none⟩ = some (.slice bo bl bc)), (3, fun w' => w'.cell? ⟨g + 1, 0, none⟩ = some (.bool nb) ∧ w'.cell? ⟨g + 1, 1, none⟩ = some (.slice bo bl bc)), (4, fun w' => w'.cell? ⟨g, 0, none⟩ = some (.bool na) ∧ w'.cell? ⟨g, 1, none⟩ = some (.slice ao al ac)), (9, fun w' => w'.cell? ⟨g, 0, none⟩ = some (.bool na) ∧ w'.cell? ⟨g, 1, none⟩ = some (.slice ao al ac)), (10, fun w' => w'.cell? ⟨g + 1, 0, none⟩ = some (.bool nb) ∧ w'.cell? ⟨g + 1, 1, none⟩ = some (.slice bo bl bc)), (12, fun w' => w'.cell? ⟨g + 1 + 1, 0, none⟩ = some (.bool nc) ∧ w'.cell? ⟨g + 1 + 1, 1, none⟩ = some (.slice co cl cc)), (14, fun w' => w'.cell? ⟨g, 0, none⟩ = some (.bool na) ∧ w'.cell? ⟨g, 1, none⟩ = some (.slice ao al ac)), (15, fun w' => w'.cell? ⟨g + 1, 0, none⟩ = some (.bool nb) ∧ w'.cell? ⟨g + 1, 1, none⟩ = some (.slice bo bl bc)), (16, fun w' => w'.cell? ⟨g + 1 + 1, 0, none⟩ = some (.bool nc) ∧ w'.cell? ⟨g + 1 + 1, 1, none⟩ = some (.slice co cl cc))] := ⟨(q0.below B19).cells, (q1.below B19).cells, (q1.below B19).cells, (q0.below B19).cells, (q0.below B19).cells, (q1.below B19).cells, (q2.below B19).cells, (q0.below B19).cells, (q1.below B19).cells, (q2.below B19).cells, trivial⟩
  go_wp2_with fail
  refine hK.out _ _ (AllL.kept hHeld) ?_
  clear hK K
  (try simp only [Act.put, List.setIfInBounds_toArray, List.set_cons_zero, List.set_cons_succ])
  refine late_step 5 (by kernel_rfl) rfl (fun K hK => ?_)
  go_simp
  refine (c_mul ((ib.below (below_drew' _)).below b19) ((ia.below (below_drew' _)).below b19)).mono ?_
  rintro e w20 ⟨v, rfl, hv, b20⟩
  obtain ⟨m49n, m49o, m49l, m49c, rfl, im49⟩ := hv.see zm49 (by decide)
  clear hv
  have B20 : Below w18.heap.size w18 w20 := bstep B19 b20
  clear hHeld
  have hHeld : AllL w20 [(0, fun w' => w'.cell? ⟨g, 0, none⟩ = some (.bool na) ∧ w'.cell? ⟨g, 1, none⟩ = some (.slice ao al ac)), (1, fun w' => w'.cell? ⟨g + 1, 0, none⟩ = some (.bool nb) ∧ w'.cell? ⟨g + 1, 1, none⟩ = some (.slice bo bl bc)), (3, fun w' => w'.cell? ⟨g + 1, 0, none⟩ = some (.bool nb) ∧ w'.cell? ⟨g + 1, 1, none⟩ = some (.slice bo bl bc)), (4, fun w' => w'.cell? ⟨g, 0, none⟩ = some (.bool na) ∧ w'.cell? ⟨g, 1, none⟩ = some (.slice ao al ac)), (9, fun w' => w'.cell? ⟨g, 0, none⟩ = some (.bool na) ∧ w'.cell? ⟨g, 1, none⟩ = some (.slice ao al ac)), (10, fun w' => w'.cell? ⟨g + 1, 0, none⟩ = some (.bool nb) ∧ w'.cell? ⟨g + 1, 1, none⟩ = some (.slice bo bl bc)), (12, fun w' => w'.cell? ⟨g + 1 + 1, 0, none⟩ = some (.bool nc) ∧ w'.cell? ⟨g + 1 + 1, 1, none⟩ = some (.slice co cl cc)), (14, fun w' => w'.cell? ⟨g, 0, none⟩ = some (.bool na) ∧ w'.cell? ⟨g, 1, none⟩ = some (.slice ao al ac)), (15, fun w' => w'.cell? ⟨g + 1, 0, none⟩ = some (.bool nb) ∧ w'.cell? ⟨g + 1, 1, none⟩ = some (.slice bo bl bc)), (16, fun w' => w'.cell? ⟨g + 1 + 1, 0, none⟩ = some (.bool nc) ∧ w'.cell? ⟨g + 1 + 1, 1, none⟩ = some (.slice co cl cc))] := ⟨(q0.below B20).cells, (q1.below B20).cells, (q1.below B20).cells, (q0.below B20).cells, (q0.below B20).cells, (q1.below B20).cells, (q2.below B20).cells, (q0.below B20).cells, (q1.below B20).cells, (q2.below B20).cells, trivial⟩
  go_wp2_with fail
  refine hK.out _ _ (AllL.kept hHeld) ?_
  clear hK K
  (try simp only [Act.put, List.setIfInBounds_toArray, List.set_cons_zero, List.set_cons_succ])
  refine late_step 6 (by kernel_rfl) rfl (fun K hK => ?_)
  go_simp
  refine (lequal_any (im46.below b20) im49).mono ?_
  rw [Hb21.out]
  rintro e w21 ⟨rfl, b21⟩
  have B21 : Below w18.heap.size w18 w21 := bstep B20 b21
  clear hHeld
  have hHeld : AllL w21 [(0, fun w' => w'.cell? ⟨g, 0, none⟩ = some (.bool na) ∧ w'.cell? ⟨g, 1, none⟩ = some (.slice ao al ac)), (1, fun w' => w'.cell? ⟨g + 1, 0, none⟩ = some (.bool nb) ∧ w'.cell? ⟨g + 1, 1, none⟩ = some (.slice bo bl bc)), (3, fun w' => w'.cell? ⟨g + 1, 0, none⟩ = some (.bool nb) ∧ w'.cell? ⟨g + 1, 1, none⟩ = some (.slice bo bl bc)), (4, fun w' => w'.cell? ⟨g, 0, none⟩ = some (.bool na) ∧ w'.cell? ⟨g, 1, none⟩ = some (.slice ao al ac)), (9, fun w' => w'.cell? ⟨g, 0, none⟩ = some (.bool na) ∧ w'.cell? ⟨g, 1, none⟩ = some (.slice ao al ac)), (10, fun w' => w'.cell? ⟨g + 1, 0, none⟩ = some (.bool nb) ∧ w'.cell? ⟨g + 1, 1, none⟩ = some (.slice bo bl bc)), (12, fun w' => w'.cell? ⟨g + 1 + 1, 0, none⟩ = some (.bool nc) ∧ w'.cell? ⟨g + 1 + 1, 1, none⟩ = some (.slice co cl cc)), (14, fun w' => w'.cell? ⟨g, 0, none⟩ = some (.bool na) ∧ w'.cell? ⟨g, 1, none⟩ = some (.slice ao al ac)), (15, fun w' => w'.cell? ⟨g + 1, 0, none⟩ = some (.bool nb) ∧ w'.cell? ⟨g + 1, 1, none⟩ = some (.slice bo bl bc)), (16, fun w' => w'.cell? ⟨g + 1 + 1, 0, none⟩ = some (.bool nc) ∧ w'.cell? ⟨g + 1 + 1, 1, none⟩ = some (.slice co cl cc))] := ⟨(q0.below B21).cells, (q1.below B21).cells, (q1.below B21).cells, (q0.below B21).cells, (q0.below B21).cells, (q1.below B21).cells, (q2.below B21).cells, (q0.below B21).cells, (q1.below B21).cells, (q2.below B21).cells, trivial⟩
  go_wp2_with fail
  refine hK.out _ _ (AllL.kept hHeld) ?_
  clear hK K
  (try simp only [Act.put, List.setIfInBounds_toArray, List.set_cons_zero, List.set_cons_succ])
  refine late_free 7 (v := .bool false) rfl (by kernel_rfl) (by kernel_rfl) (by kernel_rfl) (by kernel_rfl) (by kernel_rfl) (by kernel_rfl) (fun _ _ _ h => h) (Or.inl ⟨by rfl, ?_⟩) hHeld ?_
  · (intro u _; go_simp)
  (try simp only [Act.put, List.setIfInBounds_toArray, List.set_cons_zero, List.set_cons_succ])
  refine late_free 8 (v := .bool false) rfl (by kernel_rfl) (by kernel_rfl) (by kernel_rfl) (by kernel_rfl) (by kernel_rfl) (by kernel_rfl) (fun _ _ _ h => h) (Or.inl ⟨by rfl, ?_⟩) hHeld ?_
  · (intro u _; go_simp)
  (try simp only [Act.put, List.setIfInBounds_toArray, List.set_cons_zero, List.set_cons_succ])
  refine late_take 9 (v := .agg #[.bool na, .slice ao al ac]) rfl (by kernel_rfl) (List.Mem.tail _ (List.Mem.tail _ (List.Mem.tail _ (List.Mem.tail _ (List.Mem.head _))))) (by kernel_rfl) (by kernel_rfl) (by kernel_rfl) (by kernel_rfl) (fun _ _ _ h => h) (Or.inl ⟨by rfl, ?_⟩) hHeld ?_
  · (intro u hu; (try dsimp only at hu); go_split_ands; go_simp)
  (try simp only [Act.put, List.setIfInBounds_toArray, List.set_cons_zero, List.set_cons_succ])
  refine late_take 10 (v := .agg #[.bool nb, .slice bo bl bc]) rfl (by kernel_rfl) (List.Mem.tail _ (List.Mem.tail _ (List.Mem.tail _ (List.Mem.tail _ (List.Mem.tail _ (List.Mem.head _)))))) (by kernel_rfl) (by kernel_rfl) (by kernel_rfl) (by kernel_rfl) (fun _ _ _ h => h) (Or.inl ⟨by rfl, ?_⟩) hHeld ?_
  · (intro u hu; (try dsimp only at hu); go_split_ands; go_simp)
  (try simp only [Act.put, List.setIfInBounds_toArray, List.set_cons_zero, List.set_cons_succ])
  refine late_take 12 (v := .agg #[.bool nc, .slice co cl cc]) rfl (by kernel_rfl) (List.Mem.tail _ (List.Mem.tail _ (List.Mem.tail _ (List.Mem.tail _ (List.Mem.tail _ (List.Mem.tail _ (List.Mem.head _))))))) (by kernel_rfl) (by kernel_rfl) (by kernel_rfl) (by kernel_rfl) (fun _ _ _ h => h) (Or.inl ⟨by rfl, ?_⟩) hHeld ?_
  · (intro u hu; (try dsimp only at hu); go_split_ands; go_simp)
  (try simp only [Act.put, List.setIfInBounds_toArray, List.set_cons_zero, List.set_cons_succ])
  refine late_take 14 (v := .agg #[.bool na, .slice ao al ac]) rfl (by kernel_rfl) (List.Mem.tail _ (List.Mem.tail _ (List.Mem.tail _ (List.Mem.tail _ (List.Mem.tail _ (List.Mem.tail _ (List.Mem.tail _ (List.Mem.head _)))))))) (by kernel_rfl) (by kernel_rfl) (by kernel_rfl) (by kernel_rfl) (fun _ _ _ h => h) (Or.inl ⟨by rfl, ?_⟩) hHeld ?_
  · (intro u hu; (try dsimp only at hu); go_split_ands; go_simp)
  (try simp only [Act.put, List.setIfInBounds_toArray, List.set_cons_zero, List.set_cons_succ])
  refine late_take 15 (v := .agg #[.bool nb, .slice bo bl bc]) rfl (by kernel_rfl) (List.Mem.tail _ (List.Mem.tail _ (List.Mem.tail _ (List.Mem.tail _ (List.Mem.tail _ (List.Mem.tail _ (List.Mem.tail _ (List.Mem.tail _ (List.Mem.head _))))))))) (by kernel_rfl) (by kernel_rfl) (by kernel_rfl) (by kernel_rfl) (fun _ _ _ h => h) (Or.inl ⟨by rfl, ?_⟩) hHeld ?_
  · (intro u hu; (try dsimp only at hu); go_split_ands; go_simp)
  (try simp only [Act.put, List.setIfInBounds_toArray, List.set_cons_zero, List.set_cons_succ])
  refine late_take 16 (v := .agg #[.bool nc, .slice co cl cc]) rfl (by kernel_rfl) (List.Mem.tail _ (List.Mem.tail _ (List.Mem.tail _ (List.Mem.tail _ (List.Mem.tail _ (List.Mem.tail _ (List.Mem.tail _ (List.Mem.tail _ (List.Mem.tail _ (List.Mem.head _)))))))))) (by kernel_rfl) (by kernel_rfl) (by kernel_rfl) (by kernel_rfl) (fun _ _ _ h => h) (Or.inl ⟨by rfl, ?_⟩) hHeld ?_
  · (intro u hu; (try dsimp only at hu); go_split_ands; go_simp)
  (try simp only [Act.put, List.setIfInBounds_toArray, List.set_cons_zero, List.set_cons_succ])
  refine late_step 11 (by kernel_rfl) rfl (fun K hK => ?_)
  go_simp
  refine (c_mul ((((ia.below (below_drew' _)).below b19).below b20).below b21) ((((ib.below (below_drew' _)).below b19).below b20).below b21)).mono ?_
  rintro e w22 ⟨v, rfl, hv, b22⟩
  obtain ⟨m55n, m55o, m55l, m55c, rfl, im55⟩ := hv.see zm55 (by decide)
  clear hv
  have B22 : Below w18.heap.size w18 w22 := bstep B21 b22
  clear hHeld
  have hHeld : AllL w22 [(0, fun w' => w'.cell? ⟨g, 0, none⟩ = some (.bool na) ∧ w'.cell? ⟨g, 1, none⟩ = some (.slice ao al ac)), (1, fun w' => w'.cell? ⟨g + 1, 0, none⟩ = some (.bool nb) ∧ w'.cell? ⟨g + 1, 1, none⟩ = some (.slice bo bl bc)), (3, fun w' => w'.cell? ⟨g + 1, 0, none⟩ = some (.bool nb) ∧ w'.cell? ⟨g + 1, 1, none⟩ = some (.slice bo bl bc)), (4, fun w' => w'.cell? ⟨g, 0, none⟩ = some (.bool na) ∧ w'.cell? ⟨g, 1, none⟩ = some (.slice ao al ac)), (9, fun w' => w'.cell? ⟨g, 0, none⟩ = some (.bool na) ∧ w'.cell? ⟨g, 1, none⟩ = some (.slice ao al ac)), (10, fun w' => w'.cell? ⟨g + 1, 0, none⟩ = some (.bool nb) ∧ w'.cell? ⟨g + 1, 1, none⟩ = some (.slice bo bl bc)), (12, fun w' => w'.cell? ⟨g + 1 + 1, 0, none⟩ = some (.bool nc) ∧ w'.cell? ⟨g + 1 + 1, 1, none⟩ = some (.slice co cl cc)), (14, fun w' => w'.cell? ⟨g, 0, none⟩ = some (.bool na) ∧ w'.cell? ⟨g, 1, none⟩ = some (.slice ao al ac)), (15, fun w' => w'.cell? ⟨g + 1, 0, none⟩ = some (.bool nb) ∧ w'.cell? ⟨g + 1, 1, none⟩ = some (.slice bo bl bc)), (16, fun w' => w'.cell? ⟨g + 1 + 1, 0, none⟩ = some (.bool nc) ∧ w'.cell? ⟨g + 1 + 1, 1, none⟩ = some (.slice co cl cc))] := ⟨(q0.below B22).cells, (q1.below B22).cells, (q1.below B22).cells, (q0.below B22).cells, (q0.below B22).cells, (q1.below B22).cells, (q2.below B22).cells, (q0.below B22).cells, (q1.below B22).cells, (q2.below B22).cells, trivial⟩
  go_wp2_with fail
  refine hK.out _ _ (AllL.kept hHeld) ?_
  clear hK K
  (try simp only [Act.put, List.setIfInBounds_toArray, List.set_cons_zero, List.set_cons_succ])
  refine late_step 13 (by kernel_rfl) rfl (fun K hK => ?_)
  go_simp
  refine (c_mul im55 (((((ic.below (below_drew' _)).below b19).below b20).below b21).below b22)).mono ?_
  rintro e w23 ⟨v, rfl, hv, b23⟩
  obtain ⟨m57n, m57o, m57l, m57c, rfl, im57⟩ := hv.see zm57 (by decide)
  clear hv
  have B23 : Below w18.heap.size w18 w23 := bstep B22 b23
  clear hHeld
  have hHeld : AllL w23 [(0, fun w' => w'.cell? ⟨g, 0, none⟩ = some (.bool na) ∧ w'.cell? ⟨g, 1, none⟩ = some (.slice ao al ac)), (1, fun w' => w'.cell? ⟨g + 1, 0, none⟩ = some (.bool nb) ∧ w'.cell? ⟨g + 1, 1, none⟩ = some (.slice bo bl bc)), (3, fun w' => w'.cell? ⟨g + 1, 0, none⟩ = some (.bool nb) ∧ w'.cell? ⟨g + 1, 1, none⟩ = some (.slice bo bl bc)), (4, fun w' => w'.cell? ⟨g, 0, none⟩ = some (.bool na) ∧ w'.cell? ⟨g, 1, none⟩ = some (.slice ao al ac)), (9, fun w' => w'.cell? ⟨g, 0, none⟩ = some (.bool na) ∧ w'.cell? ⟨g, 1, none⟩ = some (.slice ao al ac)), (10, fun w' => w'.cell? ⟨g + 1, 0, none⟩ = some (.bool nb) ∧ w'.cell? ⟨g + 1, 1, none⟩ = some (.slice bo bl bc)), (12, fun w' => w'.cell? ⟨g + 1 + 1, 0, none⟩ = some (.bool nc) ∧ w'.cell? ⟨g + 1 + 1, 1, none⟩ = some (.slice co cl cc)), (14, fun w' => w'.cell? ⟨g, 0, none⟩ = some (.bool na) ∧ w'.cell? ⟨g, 1, none⟩ = some (.slice ao al ac)), (15, fun w' => w'.cell? ⟨g + 1, 0, none⟩ = some (.bool nb) ∧ w'.cell? ⟨g + 1, 1, none⟩ = some (.slice bo bl bc)), (16, fun w' => w'.cell? ⟨g + 1 + 1, 0, none⟩ = some (.bool nc) ∧ w'.cell? ⟨g + 1 + 1, 1, none⟩ = some (.slice co cl cc))] := ⟨(q0.below B23).cells, (q1.below B23).cells, (q1.below B23).cells, (q0.below B23).cells, (q0.below B23).cells, (q1.below B23).cells, (q2.below B23).cells, (q0.below B23).cells, (q1.below B23).cells, (q2.below B23).cells, trivial⟩
  go_wp2_with fail
  refine hK.out _ _ (AllL.kept hHeld) ?_
  clear hK K
  (try simp only [Act.put, List.setIfInBounds_toArray, List.set_cons_zero, List.set_cons_succ])
  refine late_step 17 (by kernel_rfl) rfl (fun K hK => ?_)
  go_simp
  refine (c_mul ((((((ib.below (below_drew' _)).below b19).below b20).below b21).below b22).below b23) ((((((ic.below (below_drew' _)).below b19).below b20).below b21).below b22).below b23)).mono ?_
  rintro e w24 ⟨v, rfl, hv, b24⟩
  obtain ⟨m61n, m61o, m61l, m61c, rfl, im61⟩ := hv.see zm61 (by decide)
  clear hv
  have B24 : Below w18.heap.size w18 w24 := bstep B23 b24
  clear hHeld
  have hHeld : AllL w24 [(0, fun w' => w'.cell? ⟨g, 0, none⟩ = some (.bool na) ∧ w'.cell? ⟨g, 1, none⟩ = some (.slice ao al ac)), (1, fun w' => w'.cell? ⟨g + 1, 0, none⟩ = some (.bool nb) ∧ w'.cell? ⟨g + 1, 1, none⟩ = some (.slice bo bl bc)), (3, fun w' => w'.cell? ⟨g + 1, 0, none⟩ = some (.bool nb) ∧ w'.cell? ⟨g + 1, 1, none⟩ = some (.slice bo bl bc)), (4, fun w' => w'.cell? ⟨g, 0, none⟩ = some (.bool na) ∧ w'.cell? ⟨g, 1, none⟩ = some (.slice ao al ac)), (9, fun w' => w'.cell? ⟨g, 0, none⟩ = some (.bool na) ∧ w'.cell? ⟨g, 1, none⟩ = some (.slice ao al ac)), (10, fun w' => w'.cell? ⟨g + 1, 0, none⟩ = some (.bool nb) ∧ w'.cell? ⟨g + 1, 1, none⟩ = some (.slice bo bl bc)), (12, fun w' => w'.cell? ⟨g + 1 + 1, 0, none⟩ = some (.bool nc) ∧ w'.cell? ⟨g + 1 + 1, 1, none⟩ = some (.slice co cl cc)), (14, fun w' => w'.cell? ⟨g, 0, none⟩ = some (.bool na) ∧ w'.cell? ⟨g, 1, none⟩ = some (.slice ao al ac)), (15, fun w' => w'.cell? ⟨g + 1, 0, none⟩ = some (.bool nb) ∧ w'.cell? ⟨g + 1, 1, none⟩ = some (.slice bo bl bc)), (16, fun w' => w'.cell? ⟨g + 1 + 1, 0, none⟩ = some (.bool nc) ∧ w'.cell? ⟨g + 1 + 1, 1, none⟩ = some (.slice co cl cc))] := ⟨(q0.below B24).cells, (q1.below B24).cells, (q1.below B24).cells, (q0.below B24).cells, (q0.below B24).cells, (q1.below B24).cells, (q2.below B24).cells, (q0.below B24).cells, (q1.below B24).cells, (q2.below B24).cells, trivial⟩
  go_wp2_with fail
  refine hK.out _ _ (AllL.kept hHeld) ?_
  clear hK K
  (try simp only [Act.put, List.setIfInBounds_toArray, List.set_cons_zero, List.set_cons_succ])
  refine late_step 18 (by kernel_rfl) rfl (fun K hK => ?_)
  go_simp
  refine (c_mul (((((((ia.below (below_drew' _)).below b19).below b20).below b21).below b22).below b23).below b24) im61).mono ?_
  rintro e w25 ⟨v, rfl, hv, b25⟩
  obtain ⟨m62n, m62o, m62l, m62c, rfl, im62⟩ := hv.see zm62 (by decide)
  clear hv
  have B25 : Below w18.heap.size w18 w25 := bstep B24 b25
  clear hHeld
  have hHeld : AllL w25 [(0, fun w' => w'.cell? ⟨g, 0, none⟩ = some (.bool na) ∧ w'.cell? ⟨g, 1, none⟩ = some (.slice ao al ac)), (1, fun w' => w'.cell? ⟨g + 1, 0, none⟩ = some (.bool nb) ∧ w'.cell? ⟨g + 1, 1, none⟩ = some (.slice bo bl bc)), (3, fun w' => w'.cell? ⟨g + 1, 0, none⟩ = some (.bool nb) ∧ w'.cell? ⟨g + 1, 1, none⟩ = some (.slice bo bl bc)), (4, fun w' => w'.cell? ⟨g, 0, none⟩ = some (.bool na) ∧ w'.cell? ⟨g, 1, none⟩ = some (.slice ao al ac)), (9, fun w' => w'.cell? ⟨g, 0, none⟩ = some (.bool na) ∧ w'.cell? ⟨g, 1, none⟩ = some (.slice ao al ac)), (10, fun w' => w'.cell? ⟨g + 1, 0, none⟩ = some (.bool nb) ∧ w'.cell? ⟨g + 1, 1, none⟩ = some (.slice bo bl bc)), (12, fun w' => w'.cell? ⟨g + 1 + 1, 0, none⟩ = some (.bool nc) ∧ w'.cell? ⟨g + 1 + 1, 1, none⟩ = some (.slice co cl cc)), (14, fun w' => w'.cell? ⟨g, 0, none⟩ = some (.bool na) ∧ w'.cell? ⟨g, 1, none⟩ = some (.slice ao al ac)), (15, fun w' => w'.cell? ⟨g + 1, 0, none⟩ = some (.bool nb) ∧ w'.cell? ⟨g + 1, 1, none⟩ = some (.slice bo bl bc)), (16, fun w' => w'.cell? ⟨g + 1 + 1, 0, none⟩ = some (.bool nc) ∧ w'.cell? ⟨g + 1 + 1, 1, none⟩ = some (.slice co cl cc))] := ⟨(q0.below B25).cells, (q1.below B25).cells, (q1.below B25).cells, (q0.below B25).cells, (q0.below B25).cells, (q1.below B25).cells, (q2.below B25).cells, (q0.below B25).cells, (q1.below B25).cells, (q2.below B25).cells, trivial⟩
  go_wp2_with fail
  refine hK.out _ _ (AllL.kept hHeld) ?_
  clear hK K
  (try simp only [Act.put, List.setIfInBounds_toArray, List.set_cons_zero, List.set_cons_succ])
  refine late_step 19 (by kernel_rfl) rfl (fun K hK => ?_)
  go_simp
  refine (lequal_any ((im57.below b24).below b25) im62).mono ?_
  rw [Hb26.out]
  rintro e w26 ⟨rfl, b26⟩
  have B26 : Below w18.heap.size w18 w26 := bstep B25 b26
  clear hHeld
  have hHeld : AllL w26 [(0, fun w' => w'.cell? ⟨g, 0, none⟩ = some (.bool na) ∧ w'.cell? ⟨g, 1, none⟩ = some (.slice ao al ac)), (1, fun w' => w'.cell? ⟨g + 1, 0, none⟩ = some (.bool nb) ∧ w'.cell? ⟨g + 1, 1, none⟩ = some (.slice bo bl bc)), (3, fun w' => w'.cell? ⟨g + 1, 0, none⟩ = some (.bool nb) ∧ w'.cell? ⟨g + 1, 1, none⟩ = some (.slice bo bl bc)), (4, fun w' => w'.cell? ⟨g, 0, none⟩ = some (.bool na) ∧ w'.cell? ⟨g, 1, none⟩ = some (.slice ao al ac)), (9, fun w' => w'.cell? ⟨g, 0, none⟩ = some (.bool na) ∧ w'.cell? ⟨g, 1, none⟩ = some (.slice ao al ac)), (10, fun w' => w'.cell? ⟨g + 1, 0, none⟩ = some (.bool nb) ∧ w'.cell? ⟨g + 1, 1, none⟩ = some (.slice bo bl bc)), (12, fun w' => w'.cell? ⟨g + 1 + 1, 0, none⟩ = some (.bool nc) ∧ w'.cell? ⟨g + 1 + 1, 1, none⟩ = some (.slice co cl cc)), (14, fun w' => w'.cell? ⟨g, 0, none⟩ = some (.bool na) ∧ w'.cell? ⟨g, 1, none⟩ = some (.slice ao al ac)), (15, fun w' => w'.cell? ⟨g + 1, 0, none⟩ = some (.bool nb) ∧ w'.cell? ⟨g + 1, 1, none⟩ = some (.slice bo bl bc)), (16, fun w' => w'.cell? ⟨g + 1 + 1, 0, none⟩ = some (.bool nc) ∧ w'.cell? ⟨g + 1 + 1, 1, none⟩ = some (.slice co cl cc))] := ⟨(q0.below B26).cells, (q1.below B26).cells, (q1.below B26).cells, (q0.below B26).cells, (q0.below B26).cells, (q1.below B26).cells, (q2.below B26).cells, (q0.below B26).cells, (q1.below B26).cells, (q2.below B26).cells, trivial⟩
  go_wp2_with fail
  refine hK.out _ _ (AllL.kept hHeld) ?_
  clear hK K
  (try simp only [Act.put, List.setIfInBounds_toArray, List.set_cons_zero, List.set_cons_succ])
  refine late_free 20 (v := .bool false) rfl (by kernel_rfl) (by kernel_rfl) (by kernel_rfl) (by kernel_rfl) (by kernel_rfl) (by kernel_rfl) (fun _ _ _ h => h) (Or.inl ⟨by rfl, ?_⟩) hHeld ?_
  · (intro u _; go_simp)
  (try simp only [Act.put, List.setIfInBounds_toArray, List.set_cons_zero, List.set_cons_succ])
  refine late_free 21 (v := .bool false) rfl (by kernel_rfl) (by kernel_rfl) (by kernel_rfl) (by kernel_rfl) (by kernel_rfl) (by kernel_rfl) (fun _ _ _ h => h) (Or.inl ⟨by rfl, ?_⟩) hHeld ?_
  · (intro u _; go_simp)
  (try simp only [Act.put, List.setIfInBounds_toArray, List.set_cons_zero, List.set_cons_succ])
  refine late_done (by kernel_rfl) ?_ _
  clear hHeld
  have b := B26
  clear b19 b20 b21 b22 b23 b24 b25 b26 B19 B20 B21 B22 B23 B24 B25 B26
  replace ia := ia.below b
  replace ib := ib.below b
  replace ic := ic.below b
  replace q0 := q0.below b
  replace q1 := q1.below b
  replace q2 := q2.below b
  replace hb := bstep hb b
  clear b
  clear im46 im49 im55 im57 im61 im62
  go_wp2_with fail
  have zm69 : Sz (B + C) 31 := (sb.mono (by decide) : Sz _ 30).add (sc.mono (by decide) : Sz _ 30)
  have zm70 : Sz (A * (B + C)) 61 := sa.mul zm69
  have zm73 : Sz (A * B) 60 := sa.mul sb
  have zm76 : Sz (A * C) 60 := sa.mul sc
  have zm77 : Sz ((A * B) + (A * C)) 61 := (zm73.mono (by decide) : Sz _ 60).add (zm76.mono (by decide) : Sz _ 60)
  have Hb32 : Hid (decide (A * (B + C) = (A * B) + (A * C)) = true) := decide_eq_true (Int.mul_add _ _ _)
  refine region_late [(0, fun w' => w'.cell? ⟨g, 0, none⟩ = some (.bool na) ∧ w'.cell? ⟨g, 1, none⟩ = some (.slice ao al ac)), (1, fun w' => w'.cell? ⟨g + 1, 0, none⟩ = some (.bool nb) ∧ w'.cell? ⟨g + 1, 1, none⟩ = some (.slice bo bl bc)), (2, fun w' => w'.cell? ⟨g + 1 + 1, 0, none⟩ = some (.bool nc) ∧ w'.cell? ⟨g + 1 + 1, 1, none⟩ = some (.slice co cl cc)), (5, fun w' => w'.cell? ⟨g, 0, none⟩ = some (.bool na) ∧ w'.cell? ⟨g, 1, none⟩ = some (.slice ao al ac)), (6, fun w' => w'.cell? ⟨g + 1, 0, none⟩ = some (.bool nb) ∧ w'.cell? ⟨g + 1, 1, none⟩ = some (.slice bo bl bc)), (8, fun w' => w'.cell? ⟨g, 0, none⟩ = some (.bool na) ∧ w'.cell? ⟨g, 1, none⟩ = some (.slice ao al ac)), (9, fun w' => w'.cell? ⟨g + 1 + 1, 0, none⟩ = some (.bool nc) ∧ w'.cell? ⟨g + 1 + 1, 1, none⟩ = some (.slice co cl cc))] (by kernel_rfl) ?_
  have hHeld : AllL w26.drew [(0, fun w' => w'.cell? ⟨g, 0, none⟩ = some (.bool na) ∧ w'.cell? ⟨g, 1, none⟩ = some (.slice ao al ac)), (1, fun w' => w'.cell? ⟨g + 1, 0, none⟩ = some (.bool nb) ∧ w'.cell? ⟨g + 1, 1, none⟩ = some (.slice bo bl bc)), (2, fun w' => w'.cell? ⟨g + 1 + 1, 0, none⟩ = some (.bool nc) ∧ w'.cell? ⟨g + 1 + 1, 1, none⟩ = some (.slice co cl cc)), (5, fun w' => w'.cell? ⟨g, 0, none⟩ = some (.bool na) ∧ w'.cell? ⟨g, 1, none⟩ = some (.slice ao al ac)), (6, fun w' => w'.cell? ⟨g + 1, 0, none⟩ = some (.bool nb) ∧ w'.cell? ⟨g + 1, 1, none⟩ = some (.slice bo bl bc)), (8, fun w' => w'.cell? ⟨g, 0, none⟩ = some (.bool na) ∧ w'.cell? ⟨g, 1, none⟩ = some (.slice ao al ac)), (9, fun w' => w'.cell? ⟨g + 1 + 1, 0, none⟩ = some (.bool nc) ∧ w'.cell? ⟨g + 1 + 1, 1, none⟩ = some (.slice co cl cc))] := ⟨(show ICell w26.drew (g) na (.slice ao al ac) from q0).cells, (show ICell w26.drew (g + 1) nb (.slice bo bl bc) from q1).cells, (show ICell w26.drew (g + 1 + 1) nc (.slice co cl cc) from q2).cells, (show ICell w26.drew (g) na (.slice ao al ac) from q0).cells, (show ICell w26.drew (g + 1) nb (.slice bo bl bc) from q1).cells, (show ICell w26.drew (g) na (.slice ao al ac) from q0).cells, (show ICell w26.drew (g + 1 + 1) nc (.slice co cl cc) from q2).cells, trivial⟩
  refine late_take 0 (v := .agg #[.bool na, .slice ao al ac]) rfl (by kernel_rfl) (List.Mem.head _) (by kernel_rfl) (by kernel_rfl) (by kernel_rfl) (by kernel_rfl) (fun _ _ _ h => h) (Or.inl ⟨by rfl, ?_⟩) hHeld ?_
  · (intro u hu; (try dsimp only at hu); go_split_ands; go_simp)
  (try simp only [Act.put, List.setIfInBounds_toArray, List.set_cons_zero, List.set_cons_succ])
  refine late_take 1 (v := .agg #[.bool nb, .slice bo bl bc]) rfl (by kernel_rfl) (List.Mem.tail _ (List.Mem.head _)) (by kernel_rfl) (by kernel_rfl) (by kernel_rfl) (by kernel_rfl) (fun _ _ _ h => h) (Or.inl ⟨by rfl, ?_⟩) hHeld ?_
  · (intro u hu; (try dsimp only at hu); go_split_ands; go_simp)
  (try simp only [Act.put, List.setIfInBounds_toArray, List.set_cons_zero, List.set_cons_succ])
  refine late_take 2 (v := .agg #[.bool nc, .slice co cl cc]) rfl (by kernel_rfl) (List.Mem.tail _ (List.Mem.tail _ (List.Mem.head _))) (by kernel_rfl) (by kernel_rfl) (by kernel_rfl) (by kernel_rfl) (fun _ _ _ h => h) (Or.inl ⟨by rfl, ?_⟩) hHeld ?_
  · (intro u hu; (try dsimp only at hu); go_split_ands; go_simp)
  (try simp only [Act.put, List.setIfInBounds_toArray, List.set_cons_zero, List.set_cons_succ])
  refine late_take 5 (v := .agg #[.bool na, .slice ao al ac]) rfl (by kernel_rfl) (List.Mem.tail _ (List.Mem.tail _ (List.Mem.tail _ (List.Mem.head _)))) (by kernel_rfl) (by kernel_rfl) (by kernel_rfl) (by kernel_rfl) (fun _ _ _ h => h) (Or.inl ⟨by rfl, ?_⟩) hHeld ?_
  · (intro u hu; (try dsimp only at hu); go_split_ands; go_simp)
  (try simp only [Act.put, List.setIfInBounds_toArray, List.set_cons_zero, List.set_cons_succ])
  refine late_take 6 (v := .agg #[.bool nb, .slice bo bl bc]) rfl (by kernel_rfl) (List.Mem.tail _ (List.Mem.tail _ (List.Mem.tail _ (List.Mem.tail _ (List.Mem.head _))))) (by kernel_rfl) (by kernel_rfl) (by kernel_rfl) (by kernel_rfl) (fun _ _ _ h => h) (Or.inl ⟨by rfl, ?_⟩) hHeld ?_
  · (intro u hu; (try dsimp only at hu); go_split_ands; go_simp)
  (try simp only [Act.put, List.setIfInBounds_toArray, List.set_cons_zero, List.set_cons_succ])
  refine late_take 8 (v := .agg #[.bool na, .slice ao al ac]) rfl (by kernel_rfl) (List.Mem.tail _ (List.Mem.tail _ (List.Mem.tail _ (List.Mem.tail _ (List.Mem.tail _ (List.Mem.head _)))))) (by kernel_rfl) (by kernel_rfl) (by kernel_rfl) (by kernel_rfl) (fun _ _ _ h => h) (Or.inl ⟨by rfl, ?_⟩) hHeld ?_
  · (intro u hu; (try dsimp only at hu); go_split_ands; go_simp)
  (try simp only [Act.put, List.setIfInBounds_toArray, List.set_cons_zero, List.set_cons_succ])
  refine late_take 9 (v := .agg #[.bool nc, .slice co cl cc]) rfl (by kernel_rfl) (List.Mem.tail _ (List.Mem.tail _ (List.Mem.tail _ (List.Mem.tail _ (List.Mem.tail _ (List.Mem.tail _ (List.Mem.head _))))))) (by kernel_rfl) (by kernel_rfl) (by kernel_rfl) (by kernel_rfl) (fun _ _ _ h => h) (Or.inl ⟨by rfl, ?_⟩) hHeld ?_
  · (intro u hu; (try dsimp only at hu); go_split_ands; go_simp)
  (try simp only [Act.put, List.setIfInBounds_toArray, List.set_cons_zero, List.set_cons_succ])
  refine late_step 3 (by kernel_rfl) rfl (fun K hK => ?_)
  go_simp
  refine (c_add (ib.below (below_drew' _)) (ic.below (below_drew' _))).mono ?_
  rintro e w27 ⟨v, rfl, hv, b27⟩
  obtain ⟨m69n, m69o, m69l, m69c, rfl, im69⟩ := hv.see zm69 (by decide)
  clear hv
  have B27 : Below w26.heap.size w26 w27 := bstep (below_drew' _) b27
  clear hHeld
  have hHeld : AllL w27 [(0, fun w' => w'.cell? ⟨g, 0, none⟩ = some (.bool na) ∧ w'.cell? ⟨g, 1, none⟩ = some (.slice ao al ac)), (1, fun w' => w'.cell? ⟨g + 1, 0, none⟩ = some (.bool nb) ∧ w'.cell? ⟨g + 1, 1, none⟩ = some (.slice bo bl bc)), (2, fun w' => w'.cell? ⟨g + 1 + 1, 0, none⟩ = some (.bool nc) ∧ w'.cell? ⟨g + 1 + 1, 1, none⟩ = some (.slice co cl cc)), (5, fun w' => w'.cell? ⟨g, 0, none⟩ = some (.bool na) ∧ w'.cell? ⟨g, 1, none⟩ = some (.slice ao al ac)), (6, fun w' => w'.cell? ⟨g + 1, 0, none⟩ = some (.bool nb) ∧ w'.cell? ⟨g + 1, 1, none⟩ = some (.slice bo bl bc)), (8, fun w' => w'.cell? ⟨g, 0, none⟩ = some (.bool na) ∧ w'.cell? ⟨g, 1, none⟩ = some (.slice ao al ac)), (9, fun w' => w'.cell? ⟨g + 1 + 1, 0, none⟩ = some (.bool nc) ∧ w'.cell? ⟨g + 1 + 1, 1, none⟩ = some (.slice co cl cc))] := ⟨(q0.below B27).cells, (q1.below B27).cells, (q2.below B27).cells, (q0.below B27).cells, (q1.below B27).cells, (q0.below B27).cells, (q2.below B27).cells, trivial⟩
  go_wp2_with fail
  refine hK.out _ _ (AllL.kept hHeld) ?_
  clear hK K
  (try simp only [Act.put, List.setIfInBounds_toArray, List.set_cons_zero, List.set_cons_succ])
  refine late_step 4 (by kernel_rfl) rfl (fun K hK => ?_)
  go_simp
  refine (c_mul ((ia.below (below_drew' _)).below b27) im69).mono ?_
  rintro e w28 ⟨v, rfl, hv, b28⟩
  obtain ⟨m70n, m70o, m70l, m70c, rfl, im70⟩ := hv.see zm70 (by decide)
  clear hv
  have B28 : Below w26.heap.size w26 w28 := bstep B27 b28
  clear hHeld
  have hHeld : AllL w28 [(0, fun w' => w'.cell? ⟨g, 0, none⟩ = some (.bool na) ∧ w'.cell? ⟨g, 1, none⟩ = some (.slice ao al ac)), (1, fun w' => w'.cell? ⟨g + 1, 0, none⟩ = some (.bool nb) ∧ w'.cell? ⟨g + 1, 1, none⟩ = some (.slice bo bl bc)), (2, fun w' => w'.cell? ⟨g + 1 + 1, 0, none⟩ = some (.bool nc) ∧ w'.cell? ⟨g + 1 + 1, 1, none⟩ = some (.slice co cl cc)), (5, fun w' => w'.cell? ⟨g, 0, none⟩ = some (.bool na) ∧ w'.cell? ⟨g, 1, none⟩ = some (.slice ao al ac)), (6, fun w' => w'.cell? ⟨g + 1, 0, none⟩ = some (.bool nb) ∧ w'.cell? ⟨g + 1, 1, none⟩ = some (.slice bo bl bc)), (8, fun w' => w'.cell? ⟨g, 0, none⟩ = some (.bool na) ∧ w'.cell? ⟨g, 1, none⟩ = some (.slice ao al ac)), (9, fun w' => w'.cell? ⟨g + 1 + 1, 0, none⟩ = some (.bool nc) ∧ w'.cell? ⟨g + 1 + 1, 1, none⟩ = some (.slice co cl cc))] := ⟨(q0.below B28).cells, (q1.below B28).cells, (q2.below B28).cells, (q0.below B28).cells, (q1.below B28).cells, (q0.below B28).cells, (q2.below B28).cells, trivial⟩
  go_wp2_with fail
  refine hK.out _ _ (AllL.kept hHeld) ?_
  clear hK K
  (try simp only [Act.put, List.setIfInBounds_toArray, List.set_cons_zero, List.set_cons_succ])
  refine late_step 7 (by kernel_rfl) rfl (fun K hK => ?_)
  go_simp
  refine (c_mul (((ia.below (below_drew' _)).below b27).below b28) (((ib.below (below_drew' _)).below b27).below b28)).mono ?_
  rintro e w29 ⟨v, rfl, hv, b29⟩
  obtain ⟨m73n, m73o, m73l, m73c, rfl, im73⟩ := hv.see zm73 (by decide)
  clear hv
  have B29 : Below w26.heap.size w26 w29 := bstep B28 b29
  clear hHeld
  have hHeld : AllL w29 [(0, fun w' => w'.cell? ⟨g, 0, none⟩ = some (.bool na) ∧ w'.cell? ⟨g, 1, none⟩ = some (.slice ao al ac)), (1, fun w' => w'.cell? ⟨g + 1, 0, none⟩ = some (.bool nb) ∧ w'.cell? ⟨g + 1, 1, none⟩ = some (.slice bo bl bc)), (2, fun w' => w'.cell? ⟨g + 1 + 1, 0, none⟩ = some (.bool nc) ∧ w'.cell? ⟨g + 1 + 1, 1, none⟩ = some (.slice co cl cc)), (5, fun w' => w'.cell? ⟨g, 0, none⟩ = some (.bool na) ∧ w'.cell? ⟨g, 1, none⟩ = some (.slice ao al ac)), (6, fun w' => w'.cell? ⟨g + 1, 0, none⟩ = some (.bool nb) ∧ w'.cell? ⟨g + 1, 1, none⟩ = some (.slice bo bl bc)), (8, fun w' => w'.cell? ⟨g, 0, none⟩ = some (.bool na) ∧ w'.cell? ⟨g, 1, none⟩ = some (.slice ao al ac)), (9, fun w' => w'.cell? ⟨g + 1 + 1, 0, none⟩ = some (.bool nc) ∧ w'.cell? ⟨g + 1 + 1, 1, none⟩ = some (.slice co cl cc))] := ⟨(q0.below B29).cells, (q1.below B29).cells, (q2.below B29).cells, (q0.below B29).cells, (q1.below B29).cells, (q0.below B29).cells, (q2.below B29).cells, trivial⟩
  go_wp2_with fail
  refine hK.out _ _ (AllL.kept hHeld) ?_
  clear hK K
  (try simp only [Act.put, List.setIfInBounds_toArray, List.set_cons_zero, List.set_cons_succ])
  refine late_step 10 (by kernel_rfl) rfl (fun K hK => ?_)
  go_simp
  refine (c_mul ((((ia.below (below_drew' _)).below b27).below b28).below b29) ((((ic.below (below_drew' _)).below b27).below b28).below b29)).mono ?_
  rintro e w30 ⟨v, rfl, hv, b30⟩
  obtain ⟨m76n, m76o, m76l, m76c, rfl, im76⟩ := hv.see zm76 (by decide)
  clear hv
  have B30 : Below w26.heap.size w26 w30 := bstep B29 b30
  clear hHeld
  have hHeld : AllL w30 [(0, fun w' => w'.cell? ⟨g, 0, none⟩ = some (.bool na) ∧ w'.cell? ⟨g, 1, none⟩ = some (.slice ao al ac)), (1, fun w' => w'.cell? ⟨g + 1, 0, none⟩ = some (.bool nb) ∧ w'.cell? ⟨g + 1, 1, none⟩ = some (.slice bo bl bc)), (2, fun w' => w'.cell? ⟨g + 1 + 1, 0, none⟩ = some (.bool nc) ∧ w'.cell? ⟨g + 1 + 1, 1, none⟩ = some (.slice co cl cc)), (5, fun w' => w'.cell? ⟨g, 0, none⟩ = some (.bool na) ∧ w'.cell? ⟨g, 1, none⟩ = some (.slice ao al ac)), (6, fun w' => w'.cell? ⟨g + 1, 0, none⟩ = some (.bool nb) ∧ w'.cell? ⟨g + 1, 1, none⟩ = some (.slice bo bl bc)), (8, fun w' => w'.cell? ⟨g, 0, none⟩ = some (.bool na) ∧ w'.cell? ⟨g, 1, none⟩ = some (.slice ao al ac)), (9, fun w' => w'.cell? ⟨g + 1 + 1, 0, none⟩ = some (.bool nc) ∧ w'.cell? ⟨g + 1 + 1, 1, none⟩ = some (.slice co cl cc))] := ⟨(q0.below B30).cells, (q1.below B30).cells, (q2.below B30).cells, (q0.below B30).cells, (q1.below B30).cells, (q0.below B30).cells, (q2.below B30).cells, trivial⟩
  go_wp2_with fail
  refine hK.out _ _ (AllL.kept hHeld) ?_
  clear hK K
  (try simp only [Act.put, List.setIfInBounds_toArray, List.set_cons_zero, List.set_cons_succ])
  refine late_step 11 (by kernel_rfl) rfl (fun K hK => ?_)
  go_simp
  refine (c_add (im73.below b30) im76).mono ?_
  rintro e w31 ⟨v, rfl, hv, b31⟩
  obtain ⟨m77n, m77o, m77l, m77c, rfl, im77⟩ := hv.see zm77 (by decide)
  clear hv
  have B31 : Below w26.heap.size w26 w31 := bstep B30 b31
  clear hHeld
  have hHeld : AllL w31 [(0, fun w' => w'.cell? ⟨g, 0, none⟩ = some (.bool na) ∧ w'.cell? ⟨g, 1, none⟩ = some (.slice ao al ac)), (1, fun w' => w'.cell? ⟨g + 1, 0, none⟩ = some (.bool nb) ∧ w'.cell? ⟨g + 1, 1, none⟩ = some (.slice bo bl bc)), (2, fun w' => w'.cell? ⟨g + 1 + 1, 0, none⟩ = some (.bool nc) ∧ w'.cell? ⟨g + 1 + 1, 1, none⟩ = some (.slice co cl cc)), (5, fun w' => w'.cell? ⟨g, 0, none⟩ = some (.bool na) ∧ w'.cell? ⟨g, 1, none⟩ = some (.slice ao al ac)), (6, fun w' => w'.cell? ⟨g + 1, 0, none⟩ = some (.bool nb) ∧ w'.cell? ⟨g + 1, 1, none⟩ = some (.slice bo bl bc)), (8, fun w' => w'.cell? ⟨g, 0, none⟩ = some (.bool na) ∧ w'.cell? ⟨g, 1, none⟩ = some (.slice ao al ac)), (9, fun w' => w'.cell? ⟨g + 1 + 1, 0, none⟩ = some (.bool nc) ∧ w'.cell? ⟨g + 1 + 1, 1, none⟩ = some (.slice co cl cc))] := ⟨(q0.below B31).cells, (q1.below B31).cells, (q2.below B31).cells, (q0.below B31).cells, (q1.below B31).cells, (q0.below B31).cells, (q2.below B31).cells, trivial⟩
  go_wp2_with fail
  refine hK.out _ _ (AllL.kept hHeld) ?_
  clear hK K
  (try simp only [Act.put, List.setIfInBounds_toArray, List.set_cons_zero, List.set_cons_succ])
  refine late_step 12 (by kernel_rfl) rfl (fun K hK => ?_)
  go_simp
  refine (lequal_any (((im70.below b29).below b30).below b31) im77).mono ?_
  rw [Hb32.out]
  rintro e w32 ⟨rfl, b32⟩
  have B32 : Below w26.heap.size w26 w32 := bstep B31 b32
  clear hHeld
  have hHeld : AllL w32 [(0, fun w' => w'.cell? ⟨g, 0, none⟩ = some (.bool na) ∧ w'.cell? ⟨g, 1, none⟩ = some (.slice ao al ac)), (1, fun w' => w'.cell? ⟨g + 1, 0, none⟩ = some (.bool nb) ∧ w'.cell? ⟨g + 1, 1, none⟩ = some (.slice bo bl bc)), (2, fun w' => w'.cell? ⟨g + 1 + 1, 0, none⟩ = some (.bool nc) ∧ w'.cell? ⟨g + 1 + 1, 1, none⟩ = some (.slice co cl cc)), (5, fun w' => w'.cell? ⟨g, 0, none⟩ = some (.bool na) ∧ w'.cell? ⟨g, 1, none⟩ = some (.slice ao al ac)), (6, fun w' => w'.cell? ⟨g + 1, 0, none⟩ = some (.bool nb) ∧ w'.cell? ⟨g + 1, 1, none⟩ = some (.slice bo bl bc)), (8, fun w' => w'.cell? ⟨g, 0, none⟩ = some (.bool na) ∧ w'.cell? ⟨g, 1, none⟩ = some (.slice ao al ac)), (9, fun w' => w'.cell? ⟨g + 1 + 1, 0, none⟩ = some (.bool nc) ∧ w'.cell? ⟨g + 1 + 1, 1, none⟩ = some (.slice co cl cc))] := ⟨(q0.below B32).cells, (q1.below B32).cells, (q2.below B32).cells, (q0.below B32).cells, (q1.below B32).cells, (q0.below B32).cells, (q2.below B32).cells, trivial⟩
  go_wp2_with fail
  refine hK.out _ _ (AllL.kept hHeld) ?_
  clear hK K
  (try simp only [Act.put, List.setIfInBounds_toArray, List.set_cons_zero, List.set_cons_succ])
  refine late_step 13 (by kernel_rfl) rfl (fun K hK => ?_)
  go_simp
  refine hK.out _ _ ⟨Or.inl ⟨4, by kernel_rfl, by kernel_rfl⟩, Or.inl ⟨3, by kernel_rfl, by kernel_rfl⟩, Or.inl ⟨3, by kernel_rfl, by kernel_rfl⟩, Or.inl ⟨7, by kernel_rfl, by kernel_rfl⟩, Or.inl ⟨7, by kernel_rfl, by kernel_rfl⟩, Or.inl ⟨10, by kernel_rfl, by kernel_rfl⟩, Or.inl ⟨10, by kernel_rfl, by kernel_rfl⟩, trivial⟩ ?_
  clear hK K
  (try simp only [Act.put, List.setIfInBounds_toArray, List.set_cons_zero, List.set_cons_succ])
  refine late_done (by kernel_rfl) ?_ _
  clear hHeld
  have b := B32
  clear b27 b28 b29 b30 b31 b32 B27 B28 B29 B30 B31 B32
  replace ia := ia.below b
  replace ib := ib.below b
  replace ic := ic.below b
  replace q0 := q0.below b
  replace q1 := q1.below b
  replace q2 := q2.below b
  replace hb := bstep hb b
  clear b
  clear im69 im70 im73 im76 im77
  go_wp2_with fail
  have zm81 : Sz (A - A) 31 := (sa.mono (by decide) : Sz _ 30).sub (sa.mono (by decide) : Sz _ 30)
  have zm86 : Sz (0) 1 := Sz.zero
  have zm87 : Sz (A + 0) 31 := (sa.mono (by decide) : Sz _ 30).add (zm86.mono (by decide) : Sz _ 30)
  have Hb37 : Hid (decide (A + 0 = A) = true) := decide_eq_true (Int.add_zero _)
  have zm93 : Sz (1) 1 := Sz.one
  have zm94 : Sz (A * 1) 31 := sa.mul zm93
  have Hb40 : Hid (decide (A * 1 = A) = true) := decide_eq_true (Int.mul_one _)
  have zm100 : Sz (-A) 30 := sa.neg
  have zm101 : Sz (0) 1 := Sz.zero
  have zm103 : Sz (0 - A) 31 := (zm101.mono (by decide) : Sz _ 30).sub (sa.mono (by decide) : Sz _ 30)
  have Hb44 : Hid (decide (-A = 0 - A) = true) := decide_eq_true ((Int.zero_sub _).symm)
  refine region_late [(0, fun w' => w'.cell? ⟨g, 0, none⟩ = some (.bool na) ∧ w'.cell? ⟨g, 1, none⟩ = some (.slice ao al ac)), (1, fun w' => w'.cell? ⟨g, 0, none⟩ = some (.bool na) ∧ w'.cell? ⟨g, 1, none⟩ = some (.slice ao al ac)), (6, fun w' => w'.cell? ⟨g, 0, none⟩ = some (.bool na) ∧ w'.cell? ⟨g, 1, none⟩ = some (.slice ao al ac)), (9, fun w' => w'.cell? ⟨g, 0, none⟩ = some (.bool na) ∧ w'.cell? ⟨g, 1, none⟩ = some (.slice ao al ac)), (13, fun w' => w'.cell? ⟨g, 0, none⟩ = some (.bool na) ∧ w'.cell? ⟨g, 1, none⟩ = some (.slice ao al ac)), (16, fun w' => w'.cell? ⟨g, 0, none⟩ = some (.bool na) ∧ w'.cell? ⟨g, 1, none⟩ = some (.slice ao al ac)), (20, fun w' => w'.cell? ⟨g, 0, none⟩ = some (.bool na) ∧ w'.cell? ⟨g, 1, none⟩ = some (.slice ao al ac)), (23, fun w' => w'.cell? ⟨g, 0, none⟩ = some (.bool na) ∧ w'.cell? ⟨g, 1, none⟩ = some (.slice ao al ac))] (by kernel_rfl) ?_
  have hHeld : AllL w32.drew [(0, fun w' => w'.cell? ⟨g, 0, none⟩ = some (.bool na) ∧ w'.cell? ⟨g, 1, none⟩ = some (.slice ao al ac)), (1, fun w' => w'.cell? ⟨g, 0, none⟩ = some (.bool na) ∧ w'.cell? ⟨g, 1, none⟩ = some (.slice ao al ac)), (6, fun w' => w'.cell? ⟨g, 0, none⟩ = some (.bool na) ∧ w'.cell? ⟨g, 1, none⟩ = some (.slice ao al ac)), (9, fun w' => w'.cell? ⟨g, 0, none⟩ = some (.bool na) ∧ w'.cell? ⟨g, 1, none⟩ = some (.slice ao al ac)), (13, fun w' => w'.cell? ⟨g, 0, none⟩ = some (.bool na) ∧ w'.cell? ⟨g, 1, none⟩ = some (.slice ao al ac)), (16, fun w' => w'.cell? ⟨g, 0, none⟩ = some (.bool na) ∧ w'.cell? ⟨g, 1, none⟩ = some (.slice ao al ac)), (20, fun w' => w'.cell? ⟨g, 0, none⟩ = some (.bool na) ∧ w'.cell? ⟨g, 1, none⟩ = some (.slice ao al ac)), (23, fun w' => w'.cell? ⟨g, 0, none⟩ = some (.bool na) ∧ w'.cell? ⟨g, 1, none⟩ = some (.slice ao al ac))] := ⟨(show ICell w32.drew (g) na (.slice ao al ac) from q0).cells, (show ICell w32.drew (g) na (.slice ao al ac) from q0).cells, (show ICell w32.drew (g) na (.slice ao al ac) from q0).cells, (show ICell w32.drew (g) na (.slice ao al ac) from q0).cells, (show ICell w32.drew (g) na (.slice ao al ac) from q0).cells, (show ICell w32.drew (g) na (.slice ao al ac) from q0).cells, (show ICell w32.drew (g) na (.slice ao al ac) from q0).cells, (show ICell w32.drew (g) na (.slice ao al ac) from q0).cells, trivial⟩
  refine late_take 0 (v := .agg #[.bool na, .slice ao al ac]) rfl (by kernel_rfl) (List.Mem.head _) (by kernel_rfl) (by kernel_rfl) (by kernel_rfl) (by kernel_rfl) (fun _ _ _ h => h) (Or.inl ⟨by rfl, ?_⟩) hHeld ?_
  · (intro u hu; (try dsimp only at hu); go_split_ands; go_simp)
  (try simp only [Act.put, List.setIfInBounds_toArray, List.set_cons_zero, List.set_cons_succ])
  refine late_take 1 (v := .agg #[.bool na, .slice ao al ac]) rfl (by kernel_rfl) (List.Mem.tail _ (List.Mem.head _)) (by kernel_rfl) (by kernel_rfl) (by kernel_rfl) (by kernel_rfl) (fun _ _ _ h => h) (Or.inl ⟨by rfl, ?_⟩) hHeld ?_
  · (intro u hu; (try dsimp only at hu); go_split_ands; go_simp)
  (try simp only [Act.put, List.setIfInBounds_toArray, List.set_cons_zero, List.set_cons_succ])
  refine late_step 2 (by kernel_rfl) rfl (fun K hK => ?_)
  go_simp
  refine (c_sub (ia.below (below_drew' _)) (ia.below (below_drew' _))).mono ?_
  rintro e w33 ⟨v, rfl, hv, b33⟩
  obtain ⟨m81n, m81o, m81l, m81c, rfl, im81⟩ := hv.see zm81 (by decide)
  clear hv
  have B33 : Below w32.heap.size w32 w33 := bstep (below_drew' _) b33
  clear hHeld
  have hHeld : AllL w33 [(0, fun w' => w'.cell? ⟨g, 0, none⟩ = some (.bool na) ∧ w'.cell? ⟨g, 1, none⟩ = some (.slice ao al ac)), (1, fun w' => w'.cell? ⟨g, 0, none⟩ = some (.bool na) ∧ w'.cell? ⟨g, 1, none⟩ = some (.slice ao al ac)), (6, fun w' => w'.cell? ⟨g, 0, none⟩ = some (.bool na) ∧ w'.cell? ⟨g, 1, none⟩ = some (.slice ao al ac)), (9, fun w' => w'.cell? ⟨g, 0, none⟩ = some (.bool na) ∧ w'.cell? ⟨g, 1, none⟩ = some (.slice ao al ac)), (13, fun w' => w'.cell? ⟨g, 0, none⟩ = some (.bool na) ∧ w'.cell? ⟨g, 1, none⟩ = some (.slice ao al ac)), (16, fun w' => w'.cell? ⟨g, 0, none⟩ = some (.bool na) ∧ w'.cell? ⟨g, 1, none⟩ = some (.slice ao al ac)), (20, fun w' => w'.cell? ⟨g, 0, none⟩ = some (.bool na) ∧ w'.cell? ⟨g, 1, none⟩ = some (.slice ao al ac)), (23, fun w' => w'.cell? ⟨g, 0, none⟩ = some (.bool na) ∧ w'.cell? ⟨g, 1, none⟩ = some (.slice ao al ac))] := ⟨(q0.below B33).cells, (q0.below B33).cells, (q0.below B33).cells, (q0.below B33).cells, (q0.below B33).cells, (q0.below B33).cells, (q0.below B33).cells, (q0.below B33).cells, trivial⟩
  go_wp2_with fail
  refine hK.out _ _ (AllL.kept hHeld) ?_
  clear hK K
  (try simp only [Act.put, List.setIfInBounds_toArray, List.set_cons_zero, List.set_cons_succ])
  refine late_step 3 (by kernel_rfl) rfl (fun K hK => ?_)
  go_simp
  refine (c_sign im81).mono ?_
  rw [show cmpZ (A - A) 0 = 0 by rw [Int.sub_self]; rfl]
  rintro e w34 ⟨rfl, b34⟩
  have B34 : Below w32.heap.size w32 w34 := bstep B33 b34
  clear hHeld
  have hHeld : AllL w34 [(0, fun w' => w'.cell? ⟨g, 0, none⟩ = some (.bool na) ∧ w'.cell? ⟨g, 1, none⟩ = some (.slice ao al ac)), (1, fun w' => w'.cell? ⟨g, 0, none⟩ = some (.bool na) ∧ w'.cell? ⟨g, 1, none⟩ = some (.slice ao al ac)), (6, fun w' => w'.cell? ⟨g, 0, none⟩ = some (.bool na) ∧ w'.cell? ⟨g, 1, none⟩ = some (.slice ao al ac)), (9, fun w' => w'.cell? ⟨g, 0, none⟩ = some (.bool na) ∧ w'.cell? ⟨g, 1, none⟩ = some (.slice ao al ac)), (13, fun w' => w'.cell? ⟨g, 0, none⟩ = some (.bool na) ∧ w'.cell? ⟨g, 1, none⟩ = some (.slice ao al ac)), (16, fun w' => w'.cell? ⟨g, 0, none⟩ = some (.bool na) ∧ w'.cell? ⟨g, 1, none⟩ = some (.slice ao al ac)), (20, fun w' => w'.cell? ⟨g, 0, none⟩ = some (.bool na) ∧ w'.cell? ⟨g, 1, none⟩ = some (.slice ao al ac)), (23, fun w' => w'.cell? ⟨g, 0, none⟩ = some (.bool na) ∧ w'.cell? ⟨g, 1, none⟩ = some (.slice ao al ac))] := ⟨(q0.below B34).cells, (q0.below B34).cells, (q0.below B34).cells, (q0.below B34).cells, (q0.below B34).cells, (q0.below B34).cells, (q0.below B34).cells, (q0.below B34).cells, trivial⟩
  go_wp2_with fail
  refine hK.out _ _ (AllL.kept hHeld) ?_
  clear hK K
  (try simp only [Act.put, List.setIfInBounds_toArray, List.set_cons_zero, List.set_cons_succ])
  refine late_free 4 (v := .bool true) rfl (by kernel_rfl) (by kernel_rfl) (by kernel_rfl) (by kernel_rfl) (by kernel_rfl) (by kernel_rfl) (fun _ _ _ h => h) (Or.inl ⟨by rfl, ?_⟩) hHeld ?_
  · (intro u _; go_simp)
  (try simp only [Act.put, List.setIfInBounds_toArray, List.set_cons_zero, List.set_cons_succ])
  refine late_free 5 (v := .bool true) rfl (by kernel_rfl) (by kernel_rfl) (by kernel_rfl) (by kernel_rfl) (by kernel_rfl) (by kernel_rfl) (fun _ _ _ h => h) (Or.inl ⟨by rfl, ?_⟩) hHeld ?_
  · (intro u _; go_simp)
  (try simp only [Act.put, List.setIfInBounds_toArray, List.set_cons_zero, List.set_cons_succ])
  refine late_take 6 (v := .agg #[.bool na, .slice ao al ac]) rfl (by kernel_rfl) (List.Mem.tail _ (List.Mem.tail _ (List.Mem.head _))) (by kernel_rfl) (by kernel_rfl) (by kernel_rfl) (by kernel_rfl) (fun _ _ _ h => h) (Or.inl ⟨by rfl, ?_⟩) hHeld ?_
  · (intro u hu; (try dsimp only at hu); go_split_ands; go_simp)
  (try simp only [Act.put, List.setIfInBounds_toArray, List.set_cons_zero, List.set_cons_succ])
  refine late_take 9 (v := .agg #[.bool na, .slice ao al ac]) rfl (by kernel_rfl) (List.Mem.tail _ (List.Mem.tail _ (List.Mem.tail _ (List.Mem.head _)))) (by kernel_rfl) (by kernel_rfl) (by kernel_rfl) (by kernel_rfl) (fun _ _ _ h => h) (Or.inl ⟨by rfl, ?_⟩) hHeld ?_
  · (intro u hu; (try dsimp only at hu); go_split_ands; go_simp)
  (try simp only [Act.put, List.setIfInBounds_toArray, List.set_cons_zero, List.set_cons_succ])
  refine late_step 7 (by kernel_rfl) rfl (fun K hK => ?_)
  go_simp
  refine (c_of (n := 0) (by decide) (by decide)).mono ?_
  rintro e w35 ⟨v, rfl, hv, b35⟩
  obtain ⟨m86n, m86o, m86l, m86c, rfl, im86⟩ := hv.see zm86 (by decide)
  clear hv
  have B35 : Below w32.heap.size w32 w35 := bstep B34 b35
  clear hHeld
  have hHeld : AllL w35 [(0, fun w' => w'.cell? ⟨g, 0, none⟩ = some (.bool na) ∧ w'.cell? ⟨g, 1, none⟩ = some (.slice ao al ac)), (1, fun w' => w'.cell? ⟨g, 0, none⟩ = some (.bool na) ∧ w'.cell? ⟨g, 1, none⟩ = some (.slice ao al ac)), (6, fun w' => w'.cell? ⟨g, 0, none⟩ = some (.bool na) ∧ w'.cell? ⟨g, 1, none⟩ = some (.slice ao al ac)), (9, fun w' => w'.cell? ⟨g, 0, none⟩ = some (.bool na) ∧ w'.cell? ⟨g, 1, none⟩ = some (.slice ao al ac)), (13, fun w' => w'.cell? ⟨g, 0, none⟩ = some (.bool na) ∧ w'.cell? ⟨g, 1, none⟩ = some (.slice ao al ac)), (16, fun w' => w'.cell? ⟨g, 0, none⟩ = some (.bool na) ∧ w'.cell? ⟨g, 1, none⟩ = some (.slice ao al ac)), (20, fun w' => w'.cell? ⟨g, 0, none⟩ = some (.bool na) ∧ w'.cell? ⟨g, 1, none⟩ = some (.slice ao al ac)), (23, fun w' => w'.cell? ⟨g, 0, none⟩ = some (.bool na) ∧ w'.cell? ⟨g, 1, none⟩ = some (.slice ao al ac))] := ⟨(q0.below B35).cells, (q0.below B35).cells, (q0.below B35).cells, (q0.below B35).cells, (q0.below B35).cells, (q0.below B35).cells, (q0.below B35).cells, (q0.below B35).cells, trivial⟩
  go_wp2_with fail
  refine hK.out _ _ (AllL.kept hHeld) ?_
  clear hK K
  (try simp only [Act.put, List.setIfInBounds_toArray, List.set_cons_zero, List.set_cons_succ])
  refine late_step 8 (by kernel_rfl) rfl (fun K hK => ?_)
  go_simp
  refine (c_add ((((ia.below (below_drew' _)).below b33).below b34).below b35) im86).mono ?_
  rintro e w36 ⟨v, rfl, hv, b36⟩
  obtain ⟨m87n, m87o, m87l, m87c, rfl, im87⟩ := hv.see zm87 (by decide)
  clear hv
  have B36 : Below w32.heap.size w32 w36 := bstep B35 b36
  clear hHeld
  have hHeld : AllL w36 [(0, fun w' => w'.cell? ⟨g, 0, none⟩ = some (.bool na) ∧ w'.cell? ⟨g, 1, none⟩ = some (.slice ao al ac)), (1, fun w' => w'.cell? ⟨g, 0, none⟩ = some (.bool na) ∧ w'.cell? ⟨g, 1, none⟩ = some (.slice ao al ac)), (6, fun w' => w'.cell? ⟨g, 0, none⟩ = some (.bool na) ∧ w'.cell? ⟨g, 1, none⟩ = some (.slice ao al ac)), (9, fun w' => w'.cell? ⟨g, 0, none⟩ = some (.bool na) ∧ w'.cell? ⟨g, 1, none⟩ = some (.slice ao al ac)), (13, fun w' => w'.cell? ⟨g, 0, none⟩ = some (.bool na) ∧ w'.cell? ⟨g, 1, none⟩ = some (.slice ao al ac)), (16, fun w' => w'.cell? ⟨g, 0, none⟩ = some (.bool na) ∧ w'.cell? ⟨g, 1, none⟩ = some (.slice ao al ac)), (20, fun w' => w'.cell? ⟨g, 0, none⟩ = some (.bool na) ∧ w'.cell? ⟨g, 1, none⟩ = some (.slice ao al ac)), (23, fun w' => w'.cell? ⟨g, 0, none⟩ = some (.bool na) ∧ w'.cell? ⟨g, 1, none⟩ = some (.slice ao al ac))] := ⟨(q0.below B36).cells, (q0.below B36).cells, (q0.below B36).cells, (q0.below B36).cells, (q0.below B36).cells, (q0.below B36).cells, (q0.below B36).cells, (q0.below B36).cells, trivial⟩
  go_wp2_with fail
  refine hK.out _ _ (AllL.kept hHeld) ?_
  clear hK K
  (try simp only [Act.put, List.setIfInBounds_toArray, List.set_cons_zero, List.set_cons_succ])
  refine late_step 10 (by kernel_rfl) rfl (fun K hK => ?_)
  go_simp
  refine (lequal_any im87 (((((ia.below (below_drew' _)).below b33).below b34).below b35).below b36)).mono ?_
  rw [Hb37.out]
  rintro e w37 ⟨rfl, b37⟩
  have B37 : Below w32.heap.size w32 w37 := bstep B36 b37
  clear hHeld
  have hHeld : AllL w37 [(0, fun w' => w'.cell? ⟨g, 0, none⟩ = some (.bool na) ∧ w'.cell? ⟨g, 1, none⟩ = some (.slice ao al ac)), (1, fun w' => w'.cell? ⟨g, 0, none⟩ = some (.bool na) ∧ w'.cell? ⟨g, 1, none⟩ = some (.slice ao al ac)), (6, fun w' => w'.cell? ⟨g, 0, none⟩ = some (.bool na) ∧ w'.cell? ⟨g, 1, none⟩ = some (.slice ao al ac)), (9, fun w' => w'.cell? ⟨g, 0, none⟩ = some (.bool na) ∧ w'.cell? ⟨g, 1, none⟩ = some (.slice ao al ac)), (13, fun w' => w'.cell? ⟨g, 0, none⟩ = some (.bool na) ∧ w'.cell? ⟨g, 1, none⟩ = some (.slice ao al ac)), (16, fun w' => w'.cell? ⟨g, 0, none⟩ = some (.bool na) ∧ w'.cell? ⟨g, 1, none⟩ = some (.slice ao al ac)), (20, fun w' => w'.cell? ⟨g, 0, none⟩ = some (.bool na) ∧ w'.cell? ⟨g, 1, none⟩ = some (.slice ao al ac)), (23, fun w' => w'.cell? ⟨g, 0, none⟩ = some (.bool na) ∧ w'.cell? ⟨g, 1, none⟩ = some (.slice ao al ac))] := ⟨(q0.below B37).cells, (q0.below B37).cells, (q0.below B37).cells, (q0.below B37).cells, (q0.below B37).cells, (q0.below B37).cells, (q0.below B37).cells, (q0.below B37).cells, trivial⟩
  go_wp2_with fail
  refine hK.out _ _ (AllL.kept hHeld) ?_
  clear hK K
  (try simp only [Act.put, List.setIfInBounds_toArray, List.set_cons_zero, List.set_cons_succ])
  refine late_free 11 (v := .bool true) rfl (by kernel_rfl) (by kernel_rfl) (by kernel_rfl) (by kernel_rfl) (by kernel_rfl) (by kernel_rfl) (fun _ _ _ h => h) (Or.inl ⟨by rfl, ?_⟩) hHeld ?_
  · (intro u _; go_simp)
  (try simp only [Act.put, List.setIfInBounds_toArray, List.set_cons_zero, List.set_cons_succ])
  refine late_free 12 (v := .bool true) rfl (by kernel_rfl) (by kernel_rfl) (by kernel_rfl) (by kernel_rfl) (by kernel_rfl) (by kernel_rfl) (fun _ _ _ h => h) (Or.inl ⟨by rfl, ?_⟩) hHeld ?_
  · (intro u _; go_simp)
  (try simp only [Act.put, List.setIfInBounds_toArray, List.set_cons_zero, List.set_cons_succ])
  refine late_take 13 (v := .agg #[.bool na, .slice ao al ac]) rfl (by kernel_rfl) (List.Mem.tail _ (List.Mem.tail _ (List.Mem.tail _ (List.Mem.tail _ (List.Mem.head _))))) (by kernel_rfl) (by kernel_rfl) (by kernel_rfl) (by kernel_rfl) (fun _ _ _ h => h) (Or.inl ⟨by rfl, ?_⟩) hHeld ?_
  · (intro u hu; (try dsimp only at hu); go_split_ands; go_simp)
  (try simp only [Act.put, List.setIfInBounds_toArray, List.set_cons_zero, List.set_cons_succ])
  refine late_take 16 (v := .agg #[.bool na, .slice ao al ac]) rfl (by kernel_rfl) (List.Mem.tail _ (List.Mem.tail _ (List.Mem.tail _ (List.Mem.tail _ (List.Mem.tail _ (List.Mem.head _)))))) (by kernel_rfl) (by kernel_rfl) (by kernel_rfl) (by kernel_rfl) (fun _ _ _ h => h) (Or.inl ⟨by rfl, ?_⟩) hHeld ?_
  · (intro u hu; (try dsimp only at hu); go_split_ands; go_simp)
  (try simp only [Act.put, List.setIfInBounds_toArray, List.set_cons_zero, List.set_cons_succ])
  refine late_step 14 (by kernel_rfl) rfl (fun K hK => ?_)
  go_simp
  refine (c_of (n := 1) (by decide) (by decide)).mono ?_
  rintro e w38 ⟨v, rfl, hv, b38⟩
  obtain ⟨m93n, m93o, m93l, m93c, rfl, im93⟩ := hv.see zm93 (by decide)
  clear hv
  have B38 : Below w32.heap.size w32 w38 := bstep B37 b38
  clear hHeld
  have hHeld : AllL w38 [(0, fun w' => w'.cell? ⟨g, 0, none⟩ = some (.bool na) ∧ w'.cell? ⟨g, 1, none⟩ = some (.slice ao al ac)), (1, fun w' => w'.cell? ⟨g, 0, none⟩ = some (.bool na) ∧ w'.cell? ⟨g, 1, none⟩ = some (.slice ao al ac)), (6, fun w' => w'.cell? ⟨g, 0, none⟩ = some (.bool na) ∧ w'.cell? ⟨g, 1, none⟩ = some (.slice ao al ac)), (9, fun w' => w'.cell? ⟨g, 0, none⟩ = some (.bool na) ∧ w'.cell? ⟨g, 1, none⟩ = some (.slice ao al ac)), (13, fun w' => w'.cell? ⟨g, 0, none⟩ = some (.bool na) ∧ w'.cell? ⟨g, 1, none⟩ = some (.slice ao al ac)), (16, fun w' => w'.cell? ⟨g, 0, none⟩ = some (.bool na) ∧ w'.cell? ⟨g, 1, none⟩ = some (.slice ao al ac)), (20, fun w' => w'.cell? ⟨g, 0, none⟩ = some (.bool na) ∧ w'.cell? ⟨g, 1, none⟩ = some (.slice ao al ac)), (23, fun w' => w'.cell? ⟨g, 0, none⟩ = some (.bool na) ∧ w'.cell? ⟨g, 1, none⟩ = some (.slice ao al ac))] := ⟨(q0.below B38).cells, (q0.below B38).cells, (q0.below B38).cells, (q0.below B38).cells, (q0.below B38).cells, (q0.below B38).cells, (q0.below B38).cells, (q0.below B38).cells, trivial⟩
  go_wp2_with fail
  refine hK.out _ _ (AllL.kept hHeld) ?_
  clear hK K
  (try simp only [Act.put, List.setIfInBounds_toArray, List.set_cons_zero, List.set_cons_succ])
  refine late_step 15 (by kernel_rfl) rfl (fun K hK => ?_)
  go_simp
  refine (c_mul (((((((ia.below (below_drew' _)).below b33).below b34).below b35).below b36).below b37).below b38) im93).mono ?_
  rintro e w39 ⟨v, rfl, hv, b39⟩
  obtain ⟨m94n, m94o, m94l, m94c, rfl, im94⟩ := hv.see zm94 (by decide)
  clear hv
  have B39 : Below w32.heap.size w32 w39 := bstep B38 b39
  clear hHeld
  have hHeld : AllL w39 [(0, fun w' => w'.cell? ⟨g, 0, none⟩ = some (.bool na) ∧ w'.cell? ⟨g, 1, none⟩ = some (.slice ao al ac)), (1, fun w' => w'.cell? ⟨g, 0, none⟩ = some (.bool na) ∧ w'.cell? ⟨g, 1, none⟩ = some (.slice ao al ac)), (6, fun w' => w'.cell? ⟨g, 0, none⟩ = some (.bool na) ∧ w'.cell? ⟨g, 1, none⟩ = some (.slice ao al ac)), (9, fun w' => w'.cell? ⟨g, 0, none⟩ = some (.bool na) ∧ w'.cell? ⟨g, 1, none⟩ = some (.slice ao al ac)), (13, fun w' => w'.cell? ⟨g, 0, none⟩ = some (.bool na) ∧ w'.cell? ⟨g, 1, none⟩ = some (.slice ao al ac)), (16, fun w' => w'.cell? ⟨g, 0, none⟩ = some (.bool na) ∧ w'.cell? ⟨g, 1, none⟩ = some (.slice ao al ac)), (20, fun w' => w'.cell? ⟨g, 0, none⟩ = some (.bool na) ∧ w'.cell? ⟨g, 1, none⟩ = some (.slice ao al ac)), (23, fun w' => w'.cell? ⟨g, 0, none⟩ = some (.bool na) ∧ w'.cell? ⟨g, 1, none⟩ = some (.slice ao al ac))] := ⟨(q0.below B39).cells, (q0.below B39).cells, (q0.below B39).cells, (q0.below B39).cells, (q0.below B39).cells, (q0.below B39).cells, (q0.below B39).cells, (q0.below B39).cells, trivial⟩
  go_wp2_with fail
  refine hK.out _ _ (AllL.kept hHeld) ?_
  clear hK K
  (try simp only [Act.put, List.setIfInBounds_toArray, List.set_cons_zero, List.set_cons_succ])
  refine late_step 17 (by kernel_rfl) rfl (fun K hK => ?_)
  go_simp
  refine (lequal_any im94 ((((((((ia.below (below_drew' _)).below b33).below b34).below b35).below b36).below b37).below b38).below b39)).mono ?_
  rw [Hb40.out]
  rintro e w40 ⟨rfl, b40⟩
  have B40 : Below w32.heap.size w32 w40 := bstep B39 b40
  clear hHeld
  have hHeld : AllL w40 [(0, fun w' => w'.cell? ⟨g, 0, none⟩ = some (.bool na) ∧ w'.cell? ⟨g, 1, none⟩ = some (.slice ao al ac)), (1, fun w' => w'.cell? ⟨g, 0, none⟩ = some (.bool na) ∧ w'.cell? ⟨g, 1, none⟩ = some (.slice ao al ac)), (6, fun w' => w'.cell? ⟨g, 0, none⟩ = some (.bool na) ∧ w'.cell? ⟨g, 1, none⟩ = some (.slice ao al ac)), (9, fun w' => w'.cell? ⟨g, 0, none⟩ = some (.bool na) ∧ w'.cell? ⟨g, 1, none⟩ = some (.slice ao al ac)), (13, fun w' => w'.cell? ⟨g, 0, none⟩ = some (.bool na) ∧ w'.cell? ⟨g, 1, none⟩ = some (.slice ao al ac)), (16, fun w' => w'.cell? ⟨g, 0, none⟩ = some (.bool na) ∧ w'.cell? ⟨g, 1, none⟩ = some (.slice ao al ac)), (20, fun w' => w'.cell? ⟨g, 0, none⟩ = some (.bool na) ∧ w'.cell? ⟨g, 1, none⟩ = some (.slice ao al ac)), (23, fun w' => w'.cell? ⟨g, 0, none⟩ = some (.bool na) ∧ w'.cell? ⟨g, 1, none⟩ = some (.slice ao al ac))] := ⟨(q0.below B40).cells, (q0.below B40).cells, (q0.below B40).cells, (q0.below B40).cells, (q0.below B40).cells, (q0.below B40).cells, (q0.below B40).cells, (q0.below B40).cells, trivial⟩
  go_wp2_with fail
  refine hK.out _ _ (AllL.kept hHeld) ?_
  clear hK K
  (try simp only [Act.put, List.setIfInBounds_toArray, List.set_cons_zero, List.set_cons_succ])
  refine late_free 18 (v := .bool true) rfl (by kernel_rfl) (by kernel_rfl) (by kernel_rfl) (by kernel_rfl) (by kernel_rfl) (by kernel_rfl) (fun _ _ _ h => h) (Or.inl ⟨by rfl, ?_⟩) hHeld ?_
  · (intro u _; go_simp)
  (try simp only [Act.put, List.setIfInBounds_toArray, List.set_cons_zero, List.set_cons_succ])
  refine late_free 19 (v := .bool true) rfl (by kernel_rfl) (by kernel_rfl) (by kernel_rfl) (by kernel_rfl) (by kernel_rfl) (by kernel_rfl) (fun _ _ _ h => h) (Or.inl ⟨by rfl, ?_⟩) hHeld ?_
  · (intro u _; go_simp)
  (try simp only [Act.put, List.setIfInBounds_toArray, List.set_cons_zero, List.set_cons_succ])
  refine late_take 20 (v := .agg #[.bool na, .slice ao al ac]) rfl (by kernel_rfl) (List.Mem.tail _ (List.Mem.tail _ (List.Mem.tail _ (List.Mem.tail _ (List.Mem.tail _ (List.Mem.tail _ (List.Mem.head _))))))) (by kernel_rfl) (by kernel_rfl) (by kernel_rfl) (by kernel_rfl) (fun _ _ _ h => h) (Or.inl ⟨by rfl, ?_⟩) hHeld ?_
  · (intro u hu; (try dsimp only at hu); go_split_ands; go_simp)
  (try simp only [Act.put, List.setIfInBounds_toArray, List.set_cons_zero, List.set_cons_succ])
  refine late_take 23 (v := .agg #[.bool na, .slice ao al ac]) rfl (by kernel_rfl) (List.Mem.tail _ (List.Mem.tail _ (List.Mem.tail _ (List.Mem.tail _ (List.Mem.tail _ (List.Mem.tail _ (List.Mem.tail _ (List.Mem.head _)))))))) (by kernel_rfl) (by kernel_rfl) (by kernel_rfl) (by kernel_rfl) (fun _ _ _ h => h) (Or.inl ⟨by rfl, ?_⟩) hHeld ?_
  · (intro u hu; (try dsimp only at hu); go_split_ands; go_simp)
  (try simp only [Act.put, List.setIfInBounds_toArray, List.set_cons_zero, List.set_cons_succ])
  refine late_step 21 (by kernel_rfl) rfl (fun K hK => ?_)
  go_simp
  refine (c_neg (((((((((ia.below (below_drew' _)).below b33).below b34).below b35).below b36).below b37).below b38).below b39).below b40)).mono ?_
  rintro e w41 ⟨v, rfl, hv, b41⟩
  obtain ⟨m100n, m100o, m100l, m100c, rfl, im100⟩ := hv.see zm100 (by decide)
  clear hv
  have B41 : Below w32.heap.size w32 w41 := bstep B40 b41
  clear hHeld
  have hHeld : AllL w41 [(0, fun w' => w'.cell? ⟨g, 0, none⟩ = some (.bool na) ∧ w'.cell? ⟨g, 1, none⟩ = some (.slice ao al ac)), (1, fun w' => w'.cell? ⟨g, 0, none⟩ = some (.bool na) ∧ w'.cell? ⟨g, 1, none⟩ = some (.slice ao al ac)), (6, fun w' => w'.cell? ⟨g, 0, none⟩ = some (.bool na) ∧ w'.cell? ⟨g, 1, none⟩ = some (.slice ao al ac)), (9, fun w' => w'.cell? ⟨g, 0, none⟩ = some (.bool na) ∧ w'.cell? ⟨g, 1, none⟩ = some (.slice ao al ac)), (13, fun w' => w'.cell? ⟨g, 0, none⟩ = some (.bool na) ∧ w'.cell? ⟨g, 1, none⟩ = some (.slice ao al ac)), (16, fun w' => w'.cell? ⟨g, 0, none⟩ = some (.bool na) ∧ w'.cell? ⟨g, 1, none⟩ = some (.slice ao al ac)), (20, fun w' => w'.cell? ⟨g, 0, none⟩ = some (.bool na) ∧ w'.cell? ⟨g, 1, none⟩ = some (.slice ao al ac)), (23, fun w' => w'.cell? ⟨g, 0, none⟩ = some (.bool na) ∧ w'.cell? ⟨g, 1, none⟩ = some (.slice ao al ac))] := ⟨(q0.below B41).cells, (q0.below B41).cells, (q0.below B41).cells, (q0.below B41).cells, (q0.below B41).cells, (q0.below B41).cells, (q0.below B41).cells, (q0.below B41).cells, trivial⟩
  go_wp2_with fail
  refine hK.out _ _ (AllL.kept hHeld) ?_
  clear hK K
  (try simp only [Act.put, List.setIfInBounds_toArray, List.set_cons_zero, List.set_cons_succ])
  refine late_step 22 (by kernel_rfl) rfl (fun K hK => ?_)
  go_simp
  refine (c_of (n := 0) (by decide) (by decide)).mono ?_
  rintro e w42 ⟨v, rfl, hv, b42⟩
  obtain ⟨m101n, m101o, m101l, m101c, rfl, im101⟩ := hv.see zm101 (by decide)
  clear hv
  have B42 : Below w32.heap.size w32 w42 := bstep B41 b42
  clear hHeld
  have hHeld : AllL w42 [(0, fun w' => w'.cell? ⟨g, 0, none⟩ = some (.bool na) ∧ w'.cell? ⟨g, 1, none⟩ = some (.slice ao al ac)), (1, fun w' => w'.cell? ⟨g, 0, none⟩ = some (.bool na) ∧ w'.cell? ⟨g, 1, none⟩ = some (.slice ao al ac)), (6, fun w' => w'.cell? ⟨g, 0, none⟩ = some (.bool na) ∧ w'.cell? ⟨g, 1, none⟩ = some (.slice ao al ac)), (9, fun w' => w'.cell? ⟨g, 0, none⟩ = some (.bool na) ∧ w'.cell? ⟨g, 1, none⟩ = some (.slice ao al ac)), (13, fun w' => w'.cell? ⟨g, 0, none⟩ = some (.bool na) ∧ w'.cell? ⟨g, 1, none⟩ = some (.slice ao al ac)), (16, fun w' => w'.cell? ⟨g, 0, none⟩ = some (.bool na) ∧ w'.cell? ⟨g, 1, none⟩ = some (.slice ao al ac)), (20, fun w' => w'.cell? ⟨g, 0, none⟩ = some (.bool na) ∧ w'.cell? ⟨g, 1, none⟩ = some (.slice ao al ac)), (23, fun w' => w'.cell? ⟨g, 0, none⟩ = some (.bool na) ∧ w'.cell? ⟨g, 1, none⟩ = some (.slice ao al ac))] := ⟨(q0.below B42).cells, (q0.below B42).cells, (q0.below B42).cells, (q0.below B42).cells, (q0.below B42).cells, (q0.below B42).cells, (q0.below B42).cells, (q0.below B42).cells, trivial⟩
  go_wp2_with fail
  refine hK.out _ _ (AllL.kept hHeld) ?_
  clear hK K
  (try simp only [Act.put, List.setIfInBounds_toArray, List.set_cons_zero, List.set_cons_succ])
  refine late_step 24 (by kernel_rfl) rfl (fun K hK => ?_)
  go_simp
  refine (c_sub im101 (((((((((((ia.below (below_drew' _)).below b33).below b34).below b35).below b36).below b37).below b38).below b39).below b40).below b41).below b42)).mono ?_
  rintro e w43 ⟨v, rfl, hv, b43⟩
  obtain ⟨m103n, m103o, m103l, m103c, rfl, im103⟩ := hv.see zm103 (by decide)
  clear hv
  have B43 : Below w32.heap.size w32 w43 := bstep B42 b43
  clear hHeld
  have hHeld : AllL w43 [(0, fun w' => w'.cell? ⟨g, 0, none⟩ = some (.bool na) ∧ w'.cell? ⟨g, 1, none⟩ = some (.slice ao al ac)), (1, fun w' => w'.cell? ⟨g, 0, none⟩ = some (.bool na) ∧ w'.cell? ⟨g, 1, none⟩ = some (.slice ao al ac)), (6, fun w' => w'.cell? ⟨g, 0, none⟩ = some (.bool na) ∧ w'.cell? ⟨g, 1, none⟩ = some (.slice ao al ac)), (9, fun w' => w'.cell? ⟨g, 0, none⟩ = some (.bool na) ∧ w'.cell? ⟨g, 1, none⟩ = some (.slice ao al ac)), (13, fun w' => w'.cell? ⟨g, 0, none⟩ = some (.bool na) ∧ w'.cell? ⟨g, 1, none⟩ = some (.slice ao al ac)), (16, fun w' => w'.cell? ⟨g, 0, none⟩ = some (.bool na) ∧ w'.cell? ⟨g, 1, none⟩ = some (.slice ao al ac)), (20, fun w' => w'.cell? ⟨g, 0, none⟩ = some (.bool na) ∧ w'.cell? ⟨g, 1, none⟩ = some (.slice ao al ac)), (23, fun w' => w'.cell? ⟨g, 0, none⟩ = some (.bool na) ∧ w'.cell? ⟨g, 1, none⟩ = some (.slice ao al ac))] := ⟨(q0.below B43).cells, (q0.below B43).cells, (q0.below B43).cells, (q0.below B43).cells, (q0.below B43).cells, (q0.below B43).cells, (q0.below B43).cells, (q0.below B43).cells, trivial⟩
  go_wp2_with fail
  refine hK.out _ _ (AllL.kept hHeld) ?_
  clear hK K
  (try simp only [Act.put, List.setIfInBounds_toArray, List.set_cons_zero, List.set_cons_succ])
  refine late_step 25 (by kernel_rfl) rfl (fun K hK => ?_)
  go_simp
  refine (lequal_any ((im100.below b42).below b43) im103).mono ?_
  rw [Hb44.out]
  rintro e w44 ⟨rfl, b44⟩
  have B44 : Below w32.heap.size w32 w44 := bstep B43 b44
  clear hHeld
  have hHeld : AllL w44 [(0, fun w' => w'.cell? ⟨g, 0, none⟩ = some (.bool na) ∧ w'.cell? ⟨g, 1, none⟩ = some (.slice ao al ac)), (1, fun w' => w'.cell? ⟨g, 0, none⟩ = some (.bool na) ∧ w'.cell? ⟨g, 1, none⟩ = some (.slice ao al ac)), (6, fun w' => w'.cell? ⟨g, 0, none⟩ = some (.bool na) ∧ w'.cell? ⟨g, 1, none⟩ = some (.slice ao al ac)), (9, fun w' => w'.cell? ⟨g, 0, none⟩ = some (.bool na) ∧ w'.cell? ⟨g, 1, none⟩ = some (.slice ao al ac)), (13, fun w' => w'.cell? ⟨g, 0, none⟩ = some (.bool na) ∧ w'.cell? ⟨g, 1, none⟩ = some (.slice ao al ac)), (16, fun w' => w'.cell? ⟨g, 0, none⟩ = some (.bool na) ∧ w'.cell? ⟨g, 1, none⟩ = some (.slice ao al ac)), (20, fun w' => w'.cell? ⟨g, 0, none⟩ = some (.bool na) ∧ w'.cell? ⟨g, 1, none⟩ = some (.slice ao al ac)), (23, fun w' => w'.cell? ⟨g, 0, none⟩ = some (.bool na) ∧ w'.cell? ⟨g, 1, none⟩ = some (.slice ao al ac))] := ⟨(q0.below B44).cells, (q0.below B44).cells, (q0.below B44).cells, (q0.below B44).cells, (q0.below B44).cells, (q0.below B44).cells, (q0.below B44).cells, (q0.below B44).cells, trivial⟩
  go_wp2_with fail
  refine hK.out _ _ (AllL.kept hHeld) ?_
  clear hK K
  (try simp only [Act.put, List.setIfInBounds_toArray, List.set_cons_zero, List.set_cons_succ])
  refine late_free 26 (v := .bool true) rfl (by kernel_rfl) (by kernel_rfl) (by kernel_rfl) (by kernel_rfl) (by kernel_rfl) (by kernel_rfl) (fun _ _ _ h => h) (Or.inl ⟨by rfl, ?_⟩) hHeld ?_
  · (intro u _; go_simp)
  (try simp only [Act.put, List.setIfInBounds_toArray, List.set_cons_zero, List.set_cons_succ])
  refine late_step 27 (by kernel_rfl) rfl (fun K hK => ?_)
  go_simp
  refine hK.out _ _ ⟨Or.inl ⟨2, by kernel_rfl, by kernel_rfl⟩, Or.inl ⟨2, by kernel_rfl, by kernel_rfl⟩, Or.inl ⟨8, by kernel_rfl, by kernel_rfl⟩, Or.inl ⟨10, by kernel_rfl, by kernel_rfl⟩, Or.inl ⟨15, by kernel_rfl, by kernel_rfl⟩, Or.inl ⟨17, by kernel_rfl, by kernel_rfl⟩, Or.inl ⟨21, by kernel_rfl, by kernel_rfl⟩, Or.inl ⟨24, by kernel_rfl, by kernel_rfl⟩, trivial⟩ ?_
  clear hK K
  (try simp only [Act.put, List.setIfInBounds_toArray, List.set_cons_zero, List.set_cons_succ])
  refine late_done (by kernel_rfl) ?_ _
  clear hHeld
  have b := B44
  clear b33 b34 b35 b36 b37 b38 b39 b40 b41 b42 b43 b44 B33 B34 B35 B36 B37 B38 B39 B40 B41 B42 B43 B44
  replace ia := ia.below b
  replace ib := ib.below b
  replace ic := ic.below b
  replace q0 := q0.below b
  replace q1 := q1.below b
  replace q2 := q2.below b
  replace hb := bstep hb b
  clear b
  clear im81 im86 im87 im93 im94 im100 im101 im103
  go_wp2_with fail
  have zm116 : Sz (A - B) 31 := (sa.mono (by decide) : Sz _ 30).sub (sb.mono (by decide) : Sz _ 30)
  have zm118 : Sz ((A - B) + B) 32 := (zm116.mono (by decide) : Sz _ 31).add (sb.mono (by decide) : Sz _ 31)
  have Hb47 : Hid (decide ((A - B) + B = A) = true) := decide_eq_true (Int.sub_add_cancel _ _)
  refine region_late [(8, fun w' => w'.cell? ⟨g, 0, none⟩ = some (.bool na) ∧ w'.cell? ⟨g, 1, none⟩ = some (.slice ao al ac)), (9, fun w' => w'.cell? ⟨g + 1, 0, none⟩ = some (.bool nb) ∧ w'.cell? ⟨g + 1, 1, none⟩ = some (.slice bo bl bc)), (11, fun w' => w'.cell? ⟨g + 1, 0, none⟩ = some (.bool nb) ∧ w'.cell? ⟨g + 1, 1, none⟩ = some (.slice bo bl bc)), (13, fun w' => w'.cell? ⟨g, 0, none⟩ = some (.bool na) ∧ w'.cell? ⟨g, 1, none⟩ = some (.slice ao al ac))] (by kernel_rfl) ?_
  have hHeld : AllL w44.drew [(8, fun w' => w'.cell? ⟨g, 0, none⟩ = some (.bool na) ∧ w'.cell? ⟨g, 1, none⟩ = some (.slice ao al ac)), (9, fun w' => w'.cell? ⟨g + 1, 0, none⟩ = some (.bool nb) ∧ w'.cell? ⟨g + 1, 1, none⟩ = some (.slice bo bl bc)), (11, fun w' => w'.cell? ⟨g + 1, 0, none⟩ = some (.bool nb) ∧ w'.cell? ⟨g + 1, 1, none⟩ = some (.slice bo bl bc)), (13, fun w' => w'.cell? ⟨g, 0, none⟩ = some (.bool na) ∧ w'.cell? ⟨g, 1, none⟩ = some (.slice ao al ac))] := ⟨(show ICell w44.drew (g) na (.slice ao al ac) from q0).cells, (show ICell w44.drew (g + 1) nb (.slice bo bl bc) from q1).cells, (show ICell w44.drew (g + 1) nb (.slice bo bl bc) from q1).cells, (show ICell w44.drew (g) na (.slice ao al ac) from q0).cells, trivial⟩
  refine late_free 0 (v := .bool true) rfl (by kernel_rfl) (by kernel_rfl) (by kernel_rfl) (by kernel_rfl) (by kernel_rfl) (by kernel_rfl) (fun _ _ _ h => h) (Or.inl ⟨by rfl, ?_⟩) hHeld ?_
  · (intro u _; go_simp)
  (try simp only [Act.put, List.setIfInBounds_toArray, List.set_cons_zero, List.set_cons_succ])
  refine late_free 1 (v := .bool true) rfl (by kernel_rfl) (by kernel_rfl) (by kernel_rfl) (by kernel_rfl) (by kernel_rfl) (by kernel_rfl) (fun _ _ _ h => h) (Or.inl ⟨by rfl, ?_⟩) hHeld ?_
  · (intro u _; go_simp)
  (try simp only [Act.put, List.setIfInBounds_toArray, List.set_cons_zero, List.set_cons_succ])
  refine late_free 2 (v := .bool true) rfl (by kernel_rfl) (by kernel_rfl) (by kernel_rfl) (by kernel_rfl) (by kernel_rfl) (by kernel_rfl) (fun _ _ _ h => h) (Or.inl ⟨by rfl, ?_⟩) hHeld ?_
  · (intro u _; go_simp)
  (try simp only [Act.put, List.setIfInBounds_toArray, List.set_cons_zero, List.set_cons_succ])
  refine late_free 3 (v := .bool true) rfl (by kernel_rfl) (by kernel_rfl) (by kernel_rfl) (by kernel_rfl) (by kernel_rfl) (by kernel_rfl) (fun _ _ _ h => h) (Or.inl ⟨by rfl, ?_⟩) hHeld ?_
  · (intro u _; go_simp)
  (try simp only [Act.put, List.setIfInBounds_toArray, List.set_cons_zero, List.set_cons_succ])
  refine late_free 4 (v := .bool true) rfl (by kernel_rfl) (by kernel_rfl) (by kernel_rfl) (by kernel_rfl) (by kernel_rfl) (by kernel_rfl) (fun _ _ _ h => h) (Or.inl ⟨by rfl, ?_⟩) hHeld ?_
  · (intro u _; go_simp)
  (try simp only [Act.put, List.setIfInBounds_toArray, List.set_cons_zero, List.set_cons_succ])
  refine late_free 5 (v := .bool true) rfl (by kernel_rfl) (by kernel_rfl) (by kernel_rfl) (by kernel_rfl) (by kernel_rfl) (by kernel_rfl) (fun _ _ _ h => h) (Or.inl ⟨by rfl, ?_⟩) hHeld ?_
  · (intro u _; go_simp)
  (try simp only [Act.put, List.setIfInBounds_toArray, List.set_cons_zero, List.set_cons_succ])
  refine late_free 6 (v := .bool true) rfl (by kernel_rfl) (by kernel_rfl) (by kernel_rfl) (by kernel_rfl) (by kernel_rfl) (by kernel_rfl) (fun _ _ _ h => h) (Or.inl ⟨by rfl, ?_⟩) hHeld ?_
  · (intro u _; go_simp)
  (try simp only [Act.put, List.setIfInBounds_toArray, List.set_cons_zero, List.set_cons_succ])
  refine late_free 7 (v := .bool true) rfl (by kernel_rfl) (by kernel_rfl) (by kernel_rfl) (by kernel_rfl) (by kernel_rfl) (by kernel_rfl) (fun _ _ _ h => h) (Or.inl ⟨by rfl, ?_⟩) hHeld ?_
  · (intro u _; go_simp)
  (try simp only [Act.put, List.setIfInBounds_toArray, List.set_cons_zero, List.set_cons_succ])
  refine late_take 8 (v := .agg #[.bool na, .slice ao al ac]) rfl (by kernel_rfl) (List.Mem.head _) (by kernel_rfl) (by kernel_rfl) (by kernel_rfl) (by kernel_rfl) (fun _ _ _ h => h) (Or.inl ⟨by rfl, ?_⟩) hHeld ?_
  · (intro u hu; (try dsimp only at hu); go_split_ands; go_simp)
  (try simp only [Act.put, List.setIfInBounds_toArray, List.set_cons_zero, List.set_cons_succ])
  refine late_take 9 (v := .agg #[.bool nb, .slice bo bl bc]) rfl (by kernel_rfl) (List.Mem.tail _ (List.Mem.head _)) (by kernel_rfl) (by kernel_rfl) (by kernel_rfl) (by kernel_rfl) (fun _ _ _ h => h) (Or.inl ⟨by rfl, ?_⟩) hHeld ?_
  · (intro u hu; (try dsimp only at hu); go_split_ands; go_simp)
  (try simp only [Act.put, List.setIfInBounds_toArray, List.set_cons_zero, List.set_cons_succ])
  refine late_take 11 (v := .agg #[.bool nb, .slice bo bl bc]) rfl (by kernel_rfl) (List.Mem.tail _ (List.Mem.tail _ (List.Mem.head _))) (by kernel_rfl) (by kernel_rfl) (by kernel_rfl) (by kernel_rfl) (fun _ _ _ h => h) (Or.inl ⟨by rfl, ?_⟩) hHeld ?_
  · (intro u hu; (try dsimp only at hu); go_split_ands; go_simp)
  (try simp only [Act.put, List.setIfInBounds_toArray, List.set_cons_zero, List.set_cons_succ])
  refine late_take 13 (v := .agg #[.bool na, .slice ao al ac]) rfl (by kernel_rfl) (List.Mem.tail _ (List.Mem.tail _ (List.Mem.tail _ (List.Mem.head _)))) (by kernel_rfl) (by kernel_rfl) (by kernel_rfl) (by kernel_rfl) (fun _ _ _ h => h) (Or.inl ⟨by rfl, ?_⟩) hHeld ?_
  · (intro u hu; (try dsimp only at hu); go_split_ands; go_simp)
  (try simp only [Act.put, List.setIfInBounds_toArray, List.set_cons_zero, List.set_cons_succ])
  refine late_step 10 (by kernel_rfl) rfl (fun K hK => ?_)
  go_simp
  refine (c_sub (ia.below (below_drew' _)) (ib.below (below_drew' _))).mono ?_
  rintro e w45 ⟨v, rfl, hv, b45⟩
  obtain ⟨m116n, m116o, m116l, m116c, rfl, im116⟩ := hv.see zm116 (by decide)
  clear hv
  have B45 : Below w44.heap.size w44 w45 := bstep (below_drew' _) b45
  clear hHeld
  have hHeld : AllL w45 [(8, fun w' => w'.cell? ⟨g, 0, none⟩ = some (.bool na) ∧ w'.cell? ⟨g, 1, none⟩ = some (.slice ao al ac)), (9, fun w' => w'.cell? ⟨g + 1, 0, none⟩ = some (.bool nb) ∧ w'.cell? ⟨g + 1, 1, none⟩ = some (.slice bo bl bc)), (11, fun w' => w'.cell? ⟨g + 1, 0, none⟩ = some (.bool nb) ∧ w'.cell? ⟨g + 1, 1, none⟩ = some (.slice bo bl bc)), (13, fun w' => w'.cell? ⟨g, 0, none⟩ = some (.bool na) ∧ w'.cell? ⟨g, 1, none⟩ = some (.slice ao al ac))] := ⟨(q0.below B45).cells, (q1.below B45).cells, (q1.below B45).cells, (q0.below B45).cells, trivial⟩
  go_wp2_with fail
  refine hK.out _ _ (AllL.kept hHeld) ?_
  clear hK K
  (try simp only [Act.put, List.setIfInBounds_toArray, List.set_cons_zero, List.set_cons_succ])
  refine late_step 12 (by kernel_rfl) rfl (fun K hK => ?_)
  go_simp
  refine (c_add im116 ((ib.below (below_drew' _)).below b45)).mono ?_
  rintro e w46 ⟨v, rfl, hv, b46⟩
  obtain ⟨m118n, m118o, m118l, m118c, rfl, im118⟩ := hv.see zm118 (by decide)
  clear hv
  have B46 : Below w44.heap.size w44 w46 := bstep B45 b46
  clear hHeld
  have hHeld : AllL w46 [(8, fun w' => w'.cell? ⟨g, 0, none⟩ = some (.bool na) ∧ w'.cell? ⟨g, 1, none⟩ = some (.slice ao al ac)), (9, fun w' => w'.cell? ⟨g + 1, 0, none⟩ = some (.bool nb) ∧ w'.cell? ⟨g + 1, 1, none⟩ = some (.slice bo bl bc)), (11, fun w' => w'.cell? ⟨g + 1, 0, none⟩ = some (.bool nb) ∧ w'.cell? ⟨g + 1, 1, none⟩ = some (.slice bo bl bc)), (13, fun w' => w'.cell? ⟨g, 0, none⟩ = some (.bool na) ∧ w'.cell? ⟨g, 1, none⟩ = some (.slice ao al ac))] := ⟨(q0.below B46).cells, (q1.below B46).cells, (q1.below B46).cells, (q0.below B46).cells, trivial⟩
  go_wp2_with fail
  refine hK.out _ _ (AllL.kept hHeld) ?_
  clear hK K
  (try simp only [Act.put, List.setIfInBounds_toArray, List.set_cons_zero, List.set_cons_succ])
  refine late_step 14 (by kernel_rfl) rfl (fun K hK => ?_)
  go_simp
  refine (lequal_any im118 (((ia.below (below_drew' _)).below b45).below b46)).mono ?_
  rw [Hb47.out]
  rintro e w47 ⟨rfl, b47⟩
  have B47 : Below w44.heap.size w44 w47 := bstep B46 b47
  clear hHeld
  have hHeld : AllL w47 [(8, fun w' => w'.cell? ⟨g, 0, none⟩ = some (.bool na) ∧ w'.cell? ⟨g, 1, none⟩ = some (.slice ao al ac)), (9, fun w' => w'.cell? ⟨g + 1, 0, none⟩ = some (.bool nb) ∧ w'.cell? ⟨g + 1, 1, none⟩ = some (.slice bo bl bc)), (11, fun w' => w'.cell? ⟨g + 1, 0, none⟩ = some (.bool nb) ∧ w'.cell? ⟨g + 1, 1, none⟩ = some (.slice bo bl bc)), (13, fun w' => w'.cell? ⟨g, 0, none⟩ = some (.bool na) ∧ w'.cell? ⟨g, 1, none⟩ = some (.slice ao al ac))] := ⟨(q0.below B47).cells, (q1.below B47).cells, (q1.below B47).cells, (q0.below B47).cells, trivial⟩
  go_wp2_with fail
  refine hK.out _ _ (AllL.kept hHeld) ?_
  clear hK K
  (try simp only [Act.put, List.setIfInBounds_toArray, List.set_cons_zero, List.set_cons_succ])
  refine late_free 15 (v := .bool true) rfl (by kernel_rfl) (by kernel_rfl) (by kernel_rfl) (by kernel_rfl) (by kernel_rfl) (by kernel_rfl) (fun _ _ _ h => h) (Or.inl ⟨by rfl, ?_⟩) hHeld ?_
  · (intro u _; go_simp)
  (try simp only [Act.put, List.setIfInBounds_toArray, List.set_cons_zero, List.set_cons_succ])
  refine late_step 16 (by kernel_rfl) rfl (fun K hK => ?_)
  go_simp
  refine hK.out _ _ ⟨Or.inl ⟨10, by kernel_rfl, by kernel_rfl⟩, Or.inl ⟨10, by kernel_rfl, by kernel_rfl⟩, Or.inl ⟨12, by kernel_rfl, by kernel_rfl⟩, Or.inl ⟨14, by kernel_rfl, by kernel_rfl⟩, trivial⟩ ?_
  clear hK K
  (try simp only [Act.put, List.setIfInBounds_toArray, List.set_cons_zero, List.set_cons_succ])
  refine late_done (by kernel_rfl) ?_ _
  clear hHeld
  have b := B47
  clear b45 b46 b47 B45 B46 B47
  replace ia := ia.below b
  replace ib := ib.below b
  replace ic := ic.below b
  replace q0 := q0.below b
  replace q1 := q1.below b
  replace q2 := q2.below b
  replace hb := bstep hb b
  clear b
  clear im116 im118
  have HE : Hid (Below w1.heap.size w1 w47) := hb
  clear hb ia ib ic q0 q1 q2
  go_wp2_with fail
  go_ret
  exact ⟨rfl, HE.out⟩
end Go.Proofs.YtmcnpiajnehnlaaDoor
