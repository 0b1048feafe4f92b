/-
  Proved here: SetLaws's own walk: join and meet go together.
-/
import Derived.Test.YtphmamdmkhaemaaSetSI
import Derived.Test.YtphmamdmkhaemaaSetLawsM
import Derived.Deep.CutRange
namespace Go.Proofs.Ytphmamdmkhaemaa
open Go.Shelf Go.RowKit Go.Lib Go.Sort

set_option maxHeartbeats 16000000 in
set_option maxRecDepth 1000000 in
theorem setLaws_top (v0 : Value) (L0 : List Int) (v1 : Value) (L1 : List Int) (v2 : Value) (L2 : List Int) (w : World) (hv0 : RG (Value.int .i64) w v0 L0) (hv1 : RG (Value.int .i64) w v1 L1) (hv2 : RG (Value.int .i64) w v2 L2) :
    Calls Try.prog 8 #[v0, v1, v2] w fun e w' => e = .returned (.bool true) ∧ Below w.heap.size w w' := by
  obtain ⟨g, hg⟩ : ∃ g, g = w.heap.size := ⟨_, rfl⟩
  have HG : Hid (g = w.heap.size) := hg
  rw [← hg]
  obtain ⟨a0, p0, rfl, hc0, hm0, -⟩ := id hv0
  obtain ⟨a1, p1, rfl, hc1, hm1, -⟩ := id hv1
  obtain ⟨a2, p2, rfl, hc2, hm2, -⟩ := id hv2
  unfold maxLen at hm0 hm1 hm2
  obtain ⟨n0, hn0⟩ : ∃ n, L0.length = n := ⟨_, rfl⟩
  obtain ⟨n1, hn1⟩ : ∃ n, L1.length = n := ⟨_, rfl⟩
  obtain ⟨n2, hn2⟩ : ∃ n, L2.length = n := ⟨_, rfl⟩
  rw [hn0] at hc0 hv0 ⊢
  rw [hn1] at hc1 hv1 ⊢
  rw [hn2] at hc2 hv2 ⊢
  have HN0 : Hid (L0.length = n0) := hn0
  have HN1 : Hid (L1.length = n1) := hn1
  have HN2 : Hid (L2.length = n2) := hn2
  have C0 := alive_any w
  clear hn0 hn1 hn2
  go_enter Try.func8, Try.ntmps8
  go_wp2_with fail
  refine C0.mono ?_
  rintro e w1 ⟨rfl, b1⟩
  rw [← hg] at b1
  clear C0
  have z1 : g ≤ w1.heap.size := by have := b1.size; omega
  replace hv0 := hv0.below (by omega) b1
  replace hv1 := hv1.below (by omega) b1
  replace hv2 := hv2.below (by omega) b1
  clear hg
  by_cases h0 : n0 > 1000
  · have h0z : (n0 : Int) > 1000 := by omega
    have h0d : decide ((n0 : Int) > 1000) = true := decide_eq_true h0z
    go_wp2
    go_ret
    exact ⟨rfl, b1⟩
  have h0z : ¬ (n0 : Int) > 1000 := by omega
  have h0d : decide ((n0 : Int) > 1000) = false := decide_eq_false h0z
  by_cases h1 : n1 > 1000
  · have h1z : (n1 : Int) > 1000 := by omega
    have h1d : decide ((n1 : Int) > 1000) = true := decide_eq_true h1z
    go_wp2
    go_ret
    exact ⟨rfl, b1⟩
  have h1z : ¬ (n1 : Int) > 1000 := by omega
  have h1d : decide ((n1 : Int) > 1000) = false := decide_eq_false h1z
  by_cases h2 : n2 > 1000
  · have h2z : (n2 : Int) > 1000 := by omega
    have h2d : decide ((n2 : Int) > 1000) = true := decide_eq_true h2z
    go_wp2
    go_ret
    exact ⟨rfl, b1⟩
  have h2z : ¬ (n2 : Int) > 1000 := by omega
  have h2d : decide ((n2 : Int) > 1000) = false := decide_eq_false h2z
  have bw := b1
  have C := siOf hv0 (k := 1000) (by rw [HN0.out]; omega) (by omega)
  go_wp2_with fail
  refine C.mono ?_
  rintro e wa0 ⟨xo, xl, xc, rfl, hx, bb⟩
  clear C
  replace bw := bw.trans (bb.mono (by have := bw.size; have := HG.out; omega))
  replace hv1 := hv1.below (Nat.le_refl _) bb
  replace hv2 := hv2.below (Nat.le_refl _) bb
  clear bb
  obtain ⟨W0, hW0⟩ : ∃ u, u = wa0.alloc (.cells #[.slice xo xl xc] 24) := ⟨_, rfl⟩
  obtain ⟨bx, hbx⟩ : ∃ s, s = wa0.heap.size := ⟨_, rfl⟩
  have sx : SCell 24 W0 bx (.slice xo xl xc) := by rw [hW0, hbx]; exact SCell.new wa0 rfl
  have bb : Below wa0.heap.size wa0 W0 := by rw [hW0]; exact (Below.refl _ _).alloc (Nat.le_refl _) _
  replace bw := bw.trans (bb.mono (by have := bw.size; have := HG.out; omega))
  replace hx := hx.below bb
  replace hv1 := hv1.below (Nat.le_refl _) bb
  replace hv2 := hv2.below (Nat.le_refl _) bb
  have HW0 : Hid (W0 = wa0.alloc (.cells #[.slice xo xl xc] 24)) := hW0
  have HBx : Hid (bx = wa0.heap.size) := hbx
  clear hW0 hbx bb
  go_upto_region 5 with fail
  rw [← HW0.out, ← HBx.out]
  clear HW0 HBx
  have C := siOf hv1 (k := 1000) (by rw [HN1.out]; omega) (by omega)
  go_wp2_with fail
  refine C.mono ?_
  rintro e wa1 ⟨yo, yl, yc, rfl, hy, bb⟩
  clear C
  replace bw := bw.trans (bb.mono (by have := bw.size; have := HG.out; omega))
  replace hv2 := hv2.below (Nat.le_refl _) bb
  replace sx := sx.below bb
  replace hx := hx.below bb
  clear bb
  obtain ⟨W1, hW1⟩ : ∃ u, u = wa1.alloc (.cells #[.slice yo yl yc] 24) := ⟨_, rfl⟩
  obtain ⟨bY, hby⟩ : ∃ s, s = wa1.heap.size := ⟨_, rfl⟩
  have sy : SCell 24 W1 bY (.slice yo yl yc) := by rw [hW1, hby]; exact SCell.new wa1 rfl
  have bb : Below wa1.heap.size wa1 W1 := by rw [hW1]; exact (Below.refl _ _).alloc (Nat.le_refl _) _
  replace bw := bw.trans (bb.mono (by have := bw.size; have := HG.out; omega))
  replace hy := hy.below bb
  replace hv2 := hv2.below (Nat.le_refl _) bb
  replace sx := sx.below bb
  replace hx := hx.below bb
  have HW1 : Hid (W1 = wa1.alloc (.cells #[.slice yo yl yc] 24)) := hW1
  have HBy : Hid (bY = wa1.heap.size) := hby
  clear hW1 hby bb
  go_upto_region 6 with fail
  rw [← HW1.out, ← HBy.out]
  clear HW1 HBy
  have C := siOf hv2 (k := 1000) (by rw [HN2.out]; omega) (by omega)
  go_wp2_with fail
  refine C.mono ?_
  rintro e wa2 ⟨zo, zl, zc, rfl, hz, bb⟩
  clear C
  replace bw := bw.trans (bb.mono (by have := bw.size; have := HG.out; omega))
  replace sx := sx.below bb
  replace hx := hx.below bb
  replace sy := sy.below bb
  replace hy := hy.below bb
  clear bb
  obtain ⟨W2, hW2⟩ : ∃ u, u = wa2.alloc (.cells #[.slice zo zl zc] 24) := ⟨_, rfl⟩
  obtain ⟨bz, hbz⟩ : ∃ s, s = wa2.heap.size := ⟨_, rfl⟩
  have sz : SCell 24 W2 bz (.slice zo zl zc) := by rw [hW2, hbz]; exact SCell.new wa2 rfl
  have bb : Below wa2.heap.size wa2 W2 := by rw [hW2]; exact (Below.refl _ _).alloc (Nat.le_refl _) _
  replace bw := bw.trans (bb.mono (by have := bw.size; have := HG.out; omega))
  replace hz := hz.below bb
  replace sx := sx.below bb
  replace hx := hx.below bb
  replace sy := sy.below bb
  replace hy := hy.below bb
  have HW2 : Hid (W2 = wa2.alloc (.cells #[.slice zo zl zc] 24)) := hW2
  have HBz : Hid (bz = wa2.heap.size) := hbz
  clear hW2 hbz bb
  go_upto_region 7 with fail
  rw [← HW2.out, ← HBz.out]
  clear HW2 HBz
  obtain ⟨W3, hW3⟩ : ∃ u, u = W2.alloc (.cells #[.slice none 0 0] 24) := ⟨_, rfl⟩
  obtain ⟨bn, hbn⟩ : ∃ s, s = W2.heap.size := ⟨_, rfl⟩
  have sn : SCell 24 W3 bn (.slice none 0 0) := by rw [hW3, hbn]; exact SCell.new W2 rfl
  have bb : Below W2.heap.size W2 W3 := by rw [hW3]; exact (Below.refl _ _).alloc (Nat.le_refl _) _
  replace bw := bw.trans (bb.mono (by have := bw.size; have := HG.out; omega))
  replace sx := sx.below bb
  replace hx := hx.below bb
  replace sy := sy.below bb
  replace hy := hy.below bb
  replace sz := sz.below bb
  replace hz := hz.below bb
  have hn_ := SI.none W3 0
  have HW3 : Hid (W3 = W2.alloc (.cells #[.slice none 0 0] 24)) := hW3
  have HBN : Hid (bn = W2.heap.size) := hbn
  clear hW3 hbn bb
  go_upto_region 8 with fail
  rw [← HW3.out, ← HBN.out]
  clear HW3 HBN
  have rX := hx.rise
  have rY := hy.rise
  have rZ := hz.rise
  obtain ⟨X, hX⟩ : ∃ X, X = ofR L0 := ⟨_, rfl⟩
  obtain ⟨Y, hY⟩ : ∃ X, X = ofR L1 := ⟨_, rfl⟩
  obtain ⟨Z, hZ⟩ : ∃ X, X = ofR L2 := ⟨_, rfl⟩
  rw [← hX] at hx rX
  rw [← hY] at hy rY
  rw [← hZ] at hz rZ
  clear hX hY hZ
  have KEEP : ∀ u, Below W3.heap.size W3 u → L3.AllL u [(0, fun w' => (w'.cell? ⟨bx, 0, none⟩ = some (.slice xo xl xc))), (1, fun w' => (w'.cell? ⟨bY, 0, none⟩ = some (.slice yo yl yc))), (3, fun w' => (w'.cell? ⟨bY, 0, none⟩ = some (.slice yo yl yc))), (4, fun w' => (w'.cell? ⟨bx, 0, none⟩ = some (.slice xo xl xc))), (9, fun w' => (w'.cell? ⟨bx, 0, none⟩ = some (.slice xo xl xc))), (10, fun w' => (w'.cell? ⟨bY, 0, none⟩ = some (.slice yo yl yc))), (12, fun w' => (w'.cell? ⟨bY, 0, none⟩ = some (.slice yo yl yc))), (13, fun w' => (w'.cell? ⟨bx, 0, none⟩ = some (.slice xo xl xc))), (19, fun w' => (w'.cell? ⟨bx, 0, none⟩ = some (.slice xo xl xc))), (20, fun w' => (w'.cell? ⟨bY, 0, none⟩ = some (.slice yo yl yc))), (21, fun w' => (w'.cell? ⟨bz, 0, none⟩ = some (.slice zo zl zc))), (24, fun w' => (w'.cell? ⟨bx, 0, none⟩ = some (.slice xo xl xc))), (25, fun w' => (w'.cell? ⟨bY, 0, none⟩ = some (.slice yo yl yc))), (27, fun w' => (w'.cell? ⟨bz, 0, none⟩ = some (.slice zo zl zc))), (33, fun w' => (w'.cell? ⟨bx, 0, none⟩ = some (.slice xo xl xc))), (34, fun w' => (w'.cell? ⟨bY, 0, none⟩ = some (.slice yo yl yc))), (35, fun w' => (w'.cell? ⟨bz, 0, none⟩ = some (.slice zo zl zc))), (38, fun w' => (w'.cell? ⟨bx, 0, none⟩ = some (.slice xo xl xc))), (39, fun w' => (w'.cell? ⟨bY, 0, none⟩ = some (.slice yo yl yc))), (41, fun w' => (w'.cell? ⟨bz, 0, none⟩ = some (.slice zo zl zc)))] := fun u hu => ⟨(sx.below hu).cell, (sy.below hu).cell, (sy.below hu).cell, (sx.below hu).cell, (sx.below hu).cell, (sy.below hu).cell, (sy.below hu).cell, (sx.below hu).cell, (sx.below hu).cell, (sy.below hu).cell, (sz.below hu).cell, (sx.below hu).cell, (sy.below hu).cell, (sz.below hu).cell, (sx.below hu).cell, (sy.below hu).cell, (sz.below hu).cell, (sx.below hu).cell, (sy.below hu).cell, (sz.below hu).cell, trivial⟩
  refine L3.region_late [(0, fun w' => (w'.cell? ⟨bx, 0, none⟩ = some (.slice xo xl xc))), (1, fun w' => (w'.cell? ⟨bY, 0, none⟩ = some (.slice yo yl yc))), (3, fun w' => (w'.cell? ⟨bY, 0, none⟩ = some (.slice yo yl yc))), (4, fun w' => (w'.cell? ⟨bx, 0, none⟩ = some (.slice xo xl xc))), (9, fun w' => (w'.cell? ⟨bx, 0, none⟩ = some (.slice xo xl xc))), (10, fun w' => (w'.cell? ⟨bY, 0, none⟩ = some (.slice yo yl yc))), (12, fun w' => (w'.cell? ⟨bY, 0, none⟩ = some (.slice yo yl yc))), (13, fun w' => (w'.cell? ⟨bx, 0, none⟩ = some (.slice xo xl xc))), (19, fun w' => (w'.cell? ⟨bx, 0, none⟩ = some (.slice xo xl xc))), (20, fun w' => (w'.cell? ⟨bY, 0, none⟩ = some (.slice yo yl yc))), (21, fun w' => (w'.cell? ⟨bz, 0, none⟩ = some (.slice zo zl zc))), (24, fun w' => (w'.cell? ⟨bx, 0, none⟩ = some (.slice xo xl xc))), (25, fun w' => (w'.cell? ⟨bY, 0, none⟩ = some (.slice yo yl yc))), (27, fun w' => (w'.cell? ⟨bz, 0, none⟩ = some (.slice zo zl zc))), (33, fun w' => (w'.cell? ⟨bx, 0, none⟩ = some (.slice xo xl xc))), (34, fun w' => (w'.cell? ⟨bY, 0, none⟩ = some (.slice yo yl yc))), (35, fun w' => (w'.cell? ⟨bz, 0, none⟩ = some (.slice zo zl zc))), (38, fun w' => (w'.cell? ⟨bx, 0, none⟩ = some (.slice xo xl xc))), (39, fun w' => (w'.cell? ⟨bY, 0, none⟩ = some (.slice yo yl yc))), (41, fun w' => (w'.cell? ⟨bz, 0, none⟩ = some (.slice zo zl zc)))] (by kernel_rfl) ?_
  have B : Below W3.heap.size W3 W3.drew := (Below.refl _ _).drew
  obtain ⟨w1, hw1⟩ : ∃ u, u = W3.drew := ⟨_, rfl⟩
  rw [← hw1] at B ⊢
  clear hw1
  have hHeld := KEEP _ B
  refine L3.late_take 0 (v := .agg #[.slice xo xl xc]) rfl (by kernel_rfl) (List.Mem.head _) (by kernel_rfl) (by kernel_rfl) (by kernel_rfl) (by kernel_rfl) (fun _ _ _ h => h) (Or.inl ⟨by rfl, ?_⟩) hHeld ?_
  · (intro u hu; (try dsimp only at hu); go_split_ands; go_simp)
  (try simp only [Act.put, List.setIfInBounds_toArray, List.set_cons_zero, List.set_cons_succ])
  refine L3.late_take 1 (v := .agg #[.slice yo yl yc]) rfl (by kernel_rfl) (List.Mem.tail _ (List.Mem.head _)) (by kernel_rfl) (by kernel_rfl) (by kernel_rfl) (by kernel_rfl) (fun _ _ _ h => h) (Or.inl ⟨by rfl, ?_⟩) hHeld ?_
  · (intro u hu; (try dsimp only at hu); go_split_ands; go_simp)
  (try simp only [Act.put, List.setIfInBounds_toArray, List.set_cons_zero, List.set_cons_succ])
  refine L3.late_take 3 (v := .agg #[.slice yo yl yc]) rfl (by kernel_rfl) (List.Mem.tail _ (List.Mem.tail _ (List.Mem.head _))) (by kernel_rfl) (by kernel_rfl) (by kernel_rfl) (by kernel_rfl) (fun _ _ _ h => h) (Or.inl ⟨by rfl, ?_⟩) hHeld ?_
  · (intro u hu; (try dsimp only at hu); go_split_ands; go_simp)
  (try simp only [Act.put, List.setIfInBounds_toArray, List.set_cons_zero, List.set_cons_succ])
  refine L3.late_take 4 (v := .agg #[.slice xo xl xc]) rfl (by kernel_rfl) (List.Mem.tail _ (List.Mem.tail _ (List.Mem.tail _ (List.Mem.head _)))) (by kernel_rfl) (by kernel_rfl) (by kernel_rfl) (by kernel_rfl) (fun _ _ _ h => h) (Or.inl ⟨by rfl, ?_⟩) hHeld ?_
  · (intro u hu; (try dsimp only at hu); go_split_ands; go_simp)
  (try simp only [Act.put, List.setIfInBounds_toArray, List.set_cons_zero, List.set_cons_succ])
  refine L3.late_step 2 (by kernel_rfl) rfl (fun K hK => ?_)
  go_simp
  refine (siJoin (hx.below B) (hy.below B) (by omega) (by omega)).mono ?_
  rintro e w2 ⟨o2, l2, c2, rfl, h2, b2⟩
  have B := B.trans (b2.mono B.size)
  clear hHeld
  have hHeld := KEEP _ B
  go_wp2_with fail
  refine hK.out _ _ (L3.AllL.kept hHeld) ?_
  clear hK K
  (try simp only [Act.put, List.setIfInBounds_toArray, List.set_cons_zero, List.set_cons_succ])
  refine L3.late_step 5 (by kernel_rfl) rfl (fun K hK => ?_)
  go_simp
  refine (siJoin (hy.below B) (hx.below B) (by omega) (by omega)).mono ?_
  rintro e w3 ⟨o3, l3, c3, rfl, h3, b3⟩
  have B := B.trans (b3.mono B.size)
  replace h2 := h2.below b3
  clear hHeld
  have hHeld := KEEP _ B
  go_wp2_with fail
  refine hK.out _ _ (L3.AllL.kept hHeld) ?_
  clear hK K
  (try simp only [Act.put, List.setIfInBounds_toArray, List.set_cons_zero, List.set_cons_succ])
  refine L3.late_step 6 (by kernel_rfl) rfl (fun K hK => ?_)
  go_simp
  refine (siSame h2 h3 true (decide_eq_true (l_join rX rY))).mono ?_
  rintro e w4 ⟨rfl, b4⟩
  have B := B.trans (b4.mono B.size)
  replace h2 := h2.below b4
  replace h3 := h3.below b4
  clear hHeld
  have hHeld := KEEP _ B
  go_wp2_with fail
  refine hK.out _ _ (L3.AllL.kept hHeld) ?_
  clear hK K
  (try simp only [Act.put, List.setIfInBounds_toArray, List.set_cons_zero, List.set_cons_succ])
  refine L3.late_free 7 (v := .bool false) rfl (by kernel_rfl) (by kernel_rfl) (by kernel_rfl) (by kernel_rfl) (by kernel_rfl) (by kernel_rfl) (fun _ _ _ h => h) (Or.inl ⟨by rfl, ?_⟩) hHeld ?_
  · (intro u _; go_simp)
  (try simp only [Act.put, List.setIfInBounds_toArray, List.set_cons_zero, List.set_cons_succ])
  refine L3.late_free 8 (v := .bool false) rfl (by kernel_rfl) (by kernel_rfl) (by kernel_rfl) (by kernel_rfl) (by kernel_rfl) (by kernel_rfl) (fun _ _ _ h => h) (Or.inl ⟨by rfl, ?_⟩) hHeld ?_
  · (intro u _; go_simp)
  (try simp only [Act.put, List.setIfInBounds_toArray, List.set_cons_zero, List.set_cons_succ])
  refine L3.late_take 9 (v := .agg #[.slice xo xl xc]) rfl (by kernel_rfl) (List.Mem.tail _ (List.Mem.tail _ (List.Mem.tail _ (List.Mem.tail _ (List.Mem.head _))))) (by kernel_rfl) (by kernel_rfl) (by kernel_rfl) (by kernel_rfl) (fun _ _ _ h => h) (Or.inl ⟨by rfl, ?_⟩) hHeld ?_
  · (intro u hu; (try dsimp only at hu); go_split_ands; go_simp)
  (try simp only [Act.put, List.setIfInBounds_toArray, List.set_cons_zero, List.set_cons_succ])
  refine L3.late_take 10 (v := .agg #[.slice yo yl yc]) rfl (by kernel_rfl) (List.Mem.tail _ (List.Mem.tail _ (List.Mem.tail _ (List.Mem.tail _ (List.Mem.tail _ (List.Mem.head _)))))) (by kernel_rfl) (by kernel_rfl) (by kernel_rfl) (by kernel_rfl) (fun _ _ _ h => h) (Or.inl ⟨by rfl, ?_⟩) hHeld ?_
  · (intro u hu; (try dsimp only at hu); go_split_ands; go_simp)
  (try simp only [Act.put, List.setIfInBounds_toArray, List.set_cons_zero, List.set_cons_succ])
  refine L3.late_take 12 (v := .agg #[.slice yo yl yc]) rfl (by kernel_rfl) (List.Mem.tail _ (List.Mem.tail _ (List.Mem.tail _ (List.Mem.tail _ (List.Mem.tail _ (List.Mem.tail _ (List.Mem.head _))))))) (by kernel_rfl) (by kernel_rfl) (by kernel_rfl) (by kernel_rfl) (fun _ _ _ h => h) (Or.inl ⟨by rfl, ?_⟩) hHeld ?_
  · (intro u hu; (try dsimp only at hu); go_split_ands; go_simp)
  (try simp only [Act.put, List.setIfInBounds_toArray, List.set_cons_zero, List.set_cons_succ])
  refine L3.late_take 13 (v := .agg #[.slice xo xl xc]) rfl (by kernel_rfl) (List.Mem.tail _ (List.Mem.tail _ (List.Mem.tail _ (List.Mem.tail _ (List.Mem.tail _ (List.Mem.tail _ (List.Mem.tail _ (List.Mem.head _)))))))) (by kernel_rfl) (by kernel_rfl) (by kernel_rfl) (by kernel_rfl) (fun _ _ _ h => h) (Or.inl ⟨by rfl, ?_⟩) hHeld ?_
  · (intro u hu; (try dsimp only at hu); go_split_ands; go_simp)
  (try simp only [Act.put, List.setIfInBounds_toArray, List.set_cons_zero, List.set_cons_succ])
  refine L3.late_step 11 (by kernel_rfl) rfl (fun K hK => ?_)
  go_simp
  refine (siMeet (hx.below B) (hy.below B) (by omega) (by omega)).mono ?_
  rintro e w5 ⟨o5, l5, c5, rfl, h5, b5⟩
  have B := B.trans (b5.mono B.size)
  replace h2 := h2.below b5
  replace h3 := h3.below b5
  clear hHeld
  have hHeld := KEEP _ B
  go_wp2_with fail
  refine hK.out _ _ (L3.AllL.kept hHeld) ?_
  clear hK K
  (try simp only [Act.put, List.setIfInBounds_toArray, List.set_cons_zero, List.set_cons_succ])
  refine L3.late_step 14 (by kernel_rfl) rfl (fun K hK => ?_)
  go_simp
  refine (siMeet (hy.below B) (hx.below B) (by omega) (by omega)).mono ?_
  rintro e w6 ⟨o6, l6, c6, rfl, h6, b6⟩
  have B := B.trans (b6.mono B.size)
  replace h2 := h2.below b6
  replace h3 := h3.below b6
  replace h5 := h5.below b6
  clear hHeld
  have hHeld := KEEP _ B
  go_wp2_with fail
  refine hK.out _ _ (L3.AllL.kept hHeld) ?_
  clear hK K
  (try simp only [Act.put, List.setIfInBounds_toArray, List.set_cons_zero, List.set_cons_succ])
  refine L3.late_step 15 (by kernel_rfl) rfl (fun K hK => ?_)
  go_simp
  refine (siSame h5 h6 true (decide_eq_true (l_meet rX rY))).mono ?_
  rintro e w7 ⟨rfl, b7⟩
  have B := B.trans (b7.mono B.size)
  replace h2 := h2.below b7
  replace h3 := h3.below b7
  replace h5 := h5.below b7
  replace h6 := h6.below b7
  clear hHeld
  have hHeld := KEEP _ B
  go_wp2_with fail
  refine hK.out _ _ (L3.AllL.kept hHeld) ?_
  clear hK K
  (try simp only [Act.put, List.setIfInBounds_toArray, List.set_cons_zero, List.set_cons_succ])
  refine L3.late_free 16 (v := .bool false) rfl (by kernel_rfl) (by kernel_rfl) (by kernel_rfl) (by kernel_rfl) (by kernel_rfl) (by kernel_rfl) (fun _ _ _ h => h) (Or.inl ⟨by rfl, ?_⟩) hHeld ?_
  · (intro u _; go_simp)
  (try simp only [Act.put, List.setIfInBounds_toArray, List.set_cons_zero, List.set_cons_succ])
  refine L3.late_free 17 (v := .bool false) rfl (by kernel_rfl) (by kernel_rfl) (by kernel_rfl) (by kernel_rfl) (by kernel_rfl) (by kernel_rfl) (fun _ _ _ h => h) (Or.inl ⟨by rfl, ?_⟩) hHeld ?_
  · (intro u _; go_simp)
  (try simp only [Act.put, List.setIfInBounds_toArray, List.set_cons_zero, List.set_cons_succ])
  refine L3.late_free 18 (v := .bool false) rfl (by kernel_rfl) (by kernel_rfl) (by kernel_rfl) (by kernel_rfl) (by kernel_rfl) (by kernel_rfl) (fun _ _ _ h => h) (Or.inl ⟨by rfl, ?_⟩) hHeld ?_
  · (intro u _; go_simp)
  (try simp only [Act.put, List.setIfInBounds_toArray, List.set_cons_zero, List.set_cons_succ])
  refine L3.late_take 19 (v := .agg #[.slice xo xl xc]) rfl (by kernel_rfl) (List.Mem.tail _ (List.Mem.tail _ (List.Mem.tail _ (List.Mem.tail _ (List.Mem.tail _ (List.Mem.tail _ (List.Mem.tail _ (List.Mem.tail _ (List.Mem.head _))))))))) (by kernel_rfl) (by kernel_rfl) (by kernel_rfl) (by kernel_rfl) (fun _ _ _ h => h) (Or.inl ⟨by rfl, ?_⟩) hHeld ?_
  · (intro u hu; (try dsimp only at hu); go_split_ands; go_simp)
  (try simp only [Act.put, List.setIfInBounds_toArray, List.set_cons_zero, List.set_cons_succ])
  refine L3.late_take 20 (v := .agg #[.slice yo yl yc]) rfl (by kernel_rfl) (List.Mem.tail _ (List.Mem.tail _ (List.Mem.tail _ (List.Mem.tail _ (List.Mem.tail _ (List.Mem.tail _ (List.Mem.tail _ (List.Mem.tail _ (List.Mem.tail _ (List.Mem.head _)))))))))) (by kernel_rfl) (by kernel_rfl) (by kernel_rfl) (by kernel_rfl) (fun _ _ _ h => h) (Or.inl ⟨by rfl, ?_⟩) hHeld ?_
  · (intro u hu; (try dsimp only at hu); go_split_ands; go_simp)
  (try simp only [Act.put, List.setIfInBounds_toArray, List.set_cons_zero, List.set_cons_succ])
  refine L3.late_take 21 (v := .agg #[.slice zo zl zc]) rfl (by kernel_rfl) (List.Mem.tail _ (List.Mem.tail _ (List.Mem.tail _ (List.Mem.tail _ (List.Mem.tail _ (List.Mem.tail _ (List.Mem.tail _ (List.Mem.tail _ (List.Mem.tail _ (List.Mem.tail _ (List.Mem.head _))))))))))) (by kernel_rfl) (by kernel_rfl) (by kernel_rfl) (by kernel_rfl) (fun _ _ _ h => h) (Or.inl ⟨by rfl, ?_⟩) hHeld ?_
  · (intro u hu; (try dsimp only at hu); go_split_ands; go_simp)
  (try simp only [Act.put, List.setIfInBounds_toArray, List.set_cons_zero, List.set_cons_succ])
  refine L3.late_take 24 (v := .agg #[.slice xo xl xc]) rfl (by kernel_rfl) (List.Mem.tail _ (List.Mem.tail _ (List.Mem.tail _ (List.Mem.tail _ (List.Mem.tail _ (List.Mem.tail _ (List.Mem.tail _ (List.Mem.tail _ (List.Mem.tail _ (List.Mem.tail _ (List.Mem.tail _ (List.Mem.head _)))))))))))) (by kernel_rfl) (by kernel_rfl) (by kernel_rfl) (by kernel_rfl) (fun _ _ _ h => h) (Or.inl ⟨by rfl, ?_⟩) hHeld ?_
  · (intro u hu; (try dsimp only at hu); go_split_ands; go_simp)
  (try simp only [Act.put, List.setIfInBounds_toArray, List.set_cons_zero, List.set_cons_succ])
  refine L3.late_take 25 (v := .agg #[.slice yo yl yc]) rfl (by kernel_rfl) (List.Mem.tail _ (List.Mem.tail _ (List.Mem.tail _ (List.Mem.tail _ (List.Mem.tail _ (List.Mem.tail _ (List.Mem.tail _ (List.Mem.tail _ (List.Mem.tail _ (List.Mem.tail _ (List.Mem.tail _ (List.Mem.tail _ (List.Mem.head _))))))))))))) (by kernel_rfl) (by kernel_rfl) (by kernel_rfl) (by kernel_rfl) (fun _ _ _ h => h) (Or.inl ⟨by rfl, ?_⟩) hHeld ?_
  · (intro u hu; (try dsimp only at hu); go_split_ands; go_simp)
  (try simp only [Act.put, List.setIfInBounds_toArray, List.set_cons_zero, List.set_cons_succ])
  refine L3.late_take 27 (v := .agg #[.slice zo zl zc]) rfl (by kernel_rfl) (List.Mem.tail _ (List.Mem.tail _ (List.Mem.tail _ (List.Mem.tail _ (List.Mem.tail _ (List.Mem.tail _ (List.Mem.tail _ (List.Mem.tail _ (List.Mem.tail _ (List.Mem.tail _ (List.Mem.tail _ (List.Mem.tail _ (List.Mem.tail _ (List.Mem.head _)))))))))))))) (by kernel_rfl) (by kernel_rfl) (by kernel_rfl) (by kernel_rfl) (fun _ _ _ h => h) (Or.inl ⟨by rfl, ?_⟩) hHeld ?_
  · (intro u hu; (try dsimp only at hu); go_split_ands; go_simp)
  (try simp only [Act.put, List.setIfInBounds_toArray, List.set_cons_zero, List.set_cons_succ])
  refine L3.late_step 22 (by kernel_rfl) rfl (fun K hK => ?_)
  go_simp
  refine (siJoin (hy.below B) (hz.below B) (by omega) (by omega)).mono ?_
  rintro e w8 ⟨o8, l8, c8, rfl, h8, b8⟩
  have B := B.trans (b8.mono B.size)
  replace h2 := h2.below b8
  replace h3 := h3.below b8
  replace h5 := h5.below b8
  replace h6 := h6.below b8
  clear hHeld
  have hHeld := KEEP _ B
  go_wp2_with fail
  refine hK.out _ _ (L3.AllL.kept hHeld) ?_
  clear hK K
  (try simp only [Act.put, List.setIfInBounds_toArray, List.set_cons_zero, List.set_cons_succ])
  refine L3.late_step 23 (by kernel_rfl) rfl (fun K hK => ?_)
  go_simp
  refine (siJoin (hx.below B) h8 (by omega) (by omega)).mono ?_
  rintro e w9 ⟨o9, l9, c9, rfl, h9, b9⟩
  have B := B.trans (b9.mono B.size)
  replace h2 := h2.below b9
  replace h3 := h3.below b9
  replace h5 := h5.below b9
  replace h6 := h6.below b9
  replace h8 := h8.below b9
  clear hHeld
  have hHeld := KEEP _ B
  go_wp2_with fail
  refine hK.out _ _ (L3.AllL.kept hHeld) ?_
  clear hK K
  (try simp only [Act.put, List.setIfInBounds_toArray, List.set_cons_zero, List.set_cons_succ])
  refine L3.late_step 26 (by kernel_rfl) rfl (fun K hK => ?_)
  go_simp
  refine (siJoin (hx.below B) (hy.below B) (by omega) (by omega)).mono ?_
  rintro e w10 ⟨o10, l10, c10, rfl, h10, b10⟩
  have B := B.trans (b10.mono B.size)
  replace h2 := h2.below b10
  replace h3 := h3.below b10
  replace h5 := h5.below b10
  replace h6 := h6.below b10
  replace h8 := h8.below b10
  replace h9 := h9.below b10
  clear hHeld
  have hHeld := KEEP _ B
  go_wp2_with fail
  refine hK.out _ _ (L3.AllL.kept hHeld) ?_
  clear hK K
  (try simp only [Act.put, List.setIfInBounds_toArray, List.set_cons_zero, List.set_cons_succ])
  refine L3.late_step 28 (by kernel_rfl) rfl (fun K hK => ?_)
  go_simp
  refine (siJoin h10 (hz.below B) (by omega) (by omega)).mono ?_
  rintro e w11 ⟨o11, l11, c11, rfl, h11, b11⟩
  have B := B.trans (b11.mono B.size)
  replace h2 := h2.below b11
  replace h3 := h3.below b11
  replace h5 := h5.below b11
  replace h6 := h6.below b11
  replace h8 := h8.below b11
  replace h9 := h9.below b11
  replace h10 := h10.below b11
  clear hHeld
  have hHeld := KEEP _ B
  go_wp2_with fail
  refine hK.out _ _ (L3.AllL.kept hHeld) ?_
  clear hK K
  (try simp only [Act.put, List.setIfInBounds_toArray, List.set_cons_zero, List.set_cons_succ])
  refine L3.late_step 29 (by kernel_rfl) rfl (fun K hK => ?_)
  go_simp
  refine (siSame h9 h11 true (decide_eq_true (l_join3 rX rY rZ))).mono ?_
  rintro e w12 ⟨rfl, b12⟩
  have B := B.trans (b12.mono B.size)
  replace h2 := h2.below b12
  replace h3 := h3.below b12
  replace h5 := h5.below b12
  replace h6 := h6.below b12
  replace h8 := h8.below b12
  replace h9 := h9.below b12
  replace h10 := h10.below b12
  replace h11 := h11.below b12
  clear hHeld
  have hHeld := KEEP _ B
  go_wp2_with fail
  refine hK.out _ _ (L3.AllL.kept hHeld) ?_
  clear hK K
  (try simp only [Act.put, List.setIfInBounds_toArray, List.set_cons_zero, List.set_cons_succ])
  refine L3.late_free 30 (v := .bool false) rfl (by kernel_rfl) (by kernel_rfl) (by kernel_rfl) (by kernel_rfl) (by kernel_rfl) (by kernel_rfl) (fun _ _ _ h => h) (Or.inl ⟨by rfl, ?_⟩) hHeld ?_
  · (intro u _; go_simp)
  (try simp only [Act.put, List.setIfInBounds_toArray, List.set_cons_zero, List.set_cons_succ])
  refine L3.late_free 31 (v := .bool false) rfl (by kernel_rfl) (by kernel_rfl) (by kernel_rfl) (by kernel_rfl) (by kernel_rfl) (by kernel_rfl) (fun _ _ _ h => h) (Or.inl ⟨by rfl, ?_⟩) hHeld ?_
  · (intro u _; go_simp)
  (try simp only [Act.put, List.setIfInBounds_toArray, List.set_cons_zero, List.set_cons_succ])
  refine L3.late_free 32 (v := .bool false) rfl (by kernel_rfl) (by kernel_rfl) (by kernel_rfl) (by kernel_rfl) (by kernel_rfl) (by kernel_rfl) (fun _ _ _ h => h) (Or.inl ⟨by rfl, ?_⟩) hHeld ?_
  · (intro u _; go_simp)
  (try simp only [Act.put, List.setIfInBounds_toArray, List.set_cons_zero, List.set_cons_succ])
  refine L3.late_take 33 (v := .agg #[.slice xo xl xc]) rfl (by kernel_rfl) (List.Mem.tail _ (List.Mem.tail _ (List.Mem.tail _ (List.Mem.tail _ (List.Mem.tail _ (List.Mem.tail _ (List.Mem.tail _ (List.Mem.tail _ (List.Mem.tail _ (List.Mem.tail _ (List.Mem.tail _ (List.Mem.tail _ (List.Mem.tail _ (List.Mem.tail _ (List.Mem.head _))))))))))))))) (by kernel_rfl) (by kernel_rfl) (by kernel_rfl) (by kernel_rfl) (fun _ _ _ h => h) (Or.inl ⟨by rfl, ?_⟩) hHeld ?_
  · (intro u hu; (try dsimp only at hu); go_split_ands; go_simp)
  (try simp only [Act.put, List.setIfInBounds_toArray, List.set_cons_zero, List.set_cons_succ])
  refine L3.late_take 34 (v := .agg #[.slice yo yl yc]) rfl (by kernel_rfl) (List.Mem.tail _ (List.Mem.tail _ (List.Mem.tail _ (List.Mem.tail _ (List.Mem.tail _ (List.Mem.tail _ (List.Mem.tail _ (List.Mem.tail _ (List.Mem.tail _ (List.Mem.tail _ (List.Mem.tail _ (List.Mem.tail _ (List.Mem.tail _ (List.Mem.tail _ (List.Mem.tail _ (List.Mem.head _)))))))))))))))) (by kernel_rfl) (by kernel_rfl) (by kernel_rfl) (by kernel_rfl) (fun _ _ _ h => h) (Or.inl ⟨by rfl, ?_⟩) hHeld ?_
  · (intro u hu; (try dsimp only at hu); go_split_ands; go_simp)
  (try simp only [Act.put, List.setIfInBounds_toArray, List.set_cons_zero, List.set_cons_succ])
  refine L3.late_take 35 (v := .agg #[.slice zo zl zc]) rfl (by kernel_rfl) (List.Mem.tail _ (List.Mem.tail _ (List.Mem.tail _ (List.Mem.tail _ (List.Mem.tail _ (List.Mem.tail _ (List.Mem.tail _ (List.Mem.tail _ (List.Mem.tail _ (List.Mem.tail _ (List.Mem.tail _ (List.Mem.tail _ (List.Mem.tail _ (List.Mem.tail _ (List.Mem.tail _ (List.Mem.tail _ (List.Mem.head _))))))))))))))))) (by kernel_rfl) (by kernel_rfl) (by kernel_rfl) (by kernel_rfl) (fun _ _ _ h => h) (Or.inl ⟨by rfl, ?_⟩) hHeld ?_
  · (intro u hu; (try dsimp only at hu); go_split_ands; go_simp)
  (try simp only [Act.put, List.setIfInBounds_toArray, List.set_cons_zero, List.set_cons_succ])
  refine L3.late_take 38 (v := .agg #[.slice xo xl xc]) rfl (by kernel_rfl) (List.Mem.tail _ (List.Mem.tail _ (List.Mem.tail _ (List.Mem.tail _ (List.Mem.tail _ (List.Mem.tail _ (List.Mem.tail _ (List.Mem.tail _ (List.Mem.tail _ (List.Mem.tail _ (List.Mem.tail _ (List.Mem.tail _ (List.Mem.tail _ (List.Mem.tail _ (List.Mem.tail _ (List.Mem.tail _ (List.Mem.tail _ (List.Mem.head _)))))))))))))))))) (by kernel_rfl) (by kernel_rfl) (by kernel_rfl) (by kernel_rfl) (fun _ _ _ h => h) (Or.inl ⟨by rfl, ?_⟩) hHeld ?_
  · (intro u hu; (try dsimp only at hu); go_split_ands; go_simp)
  (try simp only [Act.put, List.setIfInBounds_toArray, List.set_cons_zero, List.set_cons_succ])
  refine L3.late_take 39 (v := .agg #[.slice yo yl yc]) rfl (by kernel_rfl) (List.Mem.tail _ (List.Mem.tail _ (List.Mem.tail _ (List.Mem.tail _ (List.Mem.tail _ (List.Mem.tail _ (List.Mem.tail _ (List.Mem.tail _ (List.Mem.tail _ (List.Mem.tail _ (List.Mem.tail _ (List.Mem.tail _ (List.Mem.tail _ (List.Mem.tail _ (List.Mem.tail _ (List.Mem.tail _ (List.Mem.tail _ (List.Mem.tail _ (List.Mem.head _))))))))))))))))))) (by kernel_rfl) (by kernel_rfl) (by kernel_rfl) (by kernel_rfl) (fun _ _ _ h => h) (Or.inl ⟨by rfl, ?_⟩) hHeld ?_
  · (intro u hu; (try dsimp only at hu); go_split_ands; go_simp)
  (try simp only [Act.put, List.setIfInBounds_toArray, List.set_cons_zero, List.set_cons_succ])
  refine L3.late_take 41 (v := .agg #[.slice zo zl zc]) rfl (by kernel_rfl) (List.Mem.tail _ (List.Mem.tail _ (List.Mem.tail _ (List.Mem.tail _ (List.Mem.tail _ (List.Mem.tail _ (List.Mem.tail _ (List.Mem.tail _ (List.Mem.tail _ (List.Mem.tail _ (List.Mem.tail _ (List.Mem.tail _ (List.Mem.tail _ (List.Mem.tail _ (List.Mem.tail _ (List.Mem.tail _ (List.Mem.tail _ (List.Mem.tail _ (List.Mem.tail _ (List.Mem.head _)))))))))))))))))))) (by kernel_rfl) (by kernel_rfl) (by kernel_rfl) (by kernel_rfl) (fun _ _ _ h => h) (Or.inl ⟨by rfl, ?_⟩) hHeld ?_
  · (intro u hu; (try dsimp only at hu); go_split_ands; go_simp)
  (try simp only [Act.put, List.setIfInBounds_toArray, List.set_cons_zero, List.set_cons_succ])
  refine L3.late_step 36 (by kernel_rfl) rfl (fun K hK => ?_)
  go_simp
  refine (siMeet (hy.below B) (hz.below B) (by omega) (by omega)).mono ?_
  rintro e w13 ⟨o13, l13, c13, rfl, h13, b13⟩
  have B := B.trans (b13.mono B.size)
  replace h2 := h2.below b13
  replace h3 := h3.below b13
  replace h5 := h5.below b13
  replace h6 := h6.below b13
  replace h8 := h8.below b13
  replace h9 := h9.below b13
  replace h10 := h10.below b13
  replace h11 := h11.below b13
  clear hHeld
  have hHeld := KEEP _ B
  go_wp2_with fail
  refine hK.out _ _ (L3.AllL.kept hHeld) ?_
  clear hK K
  (try simp only [Act.put, List.setIfInBounds_toArray, List.set_cons_zero, List.set_cons_succ])
  refine L3.late_step 37 (by kernel_rfl) rfl (fun K hK => ?_)
  go_simp
  refine (siMeet (hx.below B) h13 (by omega) (by omega)).mono ?_
  rintro e w14 ⟨o14, l14, c14, rfl, h14, b14⟩
  have B := B.trans (b14.mono B.size)
  replace h2 := h2.below b14
  replace h3 := h3.below b14
  replace h5 := h5.below b14
  replace h6 := h6.below b14
  replace h8 := h8.below b14
  replace h9 := h9.below b14
  replace h10 := h10.below b14
  replace h11 := h11.below b14
  replace h13 := h13.below b14
  clear hHeld
  have hHeld := KEEP _ B
  go_wp2_with fail
  refine hK.out _ _ (L3.AllL.kept hHeld) ?_
  clear hK K
  (try simp only [Act.put, List.setIfInBounds_toArray, List.set_cons_zero, List.set_cons_succ])
  refine L3.late_step 40 (by kernel_rfl) rfl (fun K hK => ?_)
  go_simp
  refine (siMeet (hx.below B) (hy.below B) (by omega) (by omega)).mono ?_
  rintro e w15 ⟨o15, l15, c15, rfl, h15, b15⟩
  have B := B.trans (b15.mono B.size)
  replace h2 := h2.below b15
  replace h3 := h3.below b15
  replace h5 := h5.below b15
  replace h6 := h6.below b15
  replace h8 := h8.below b15
  replace h9 := h9.below b15
  replace h10 := h10.below b15
  replace h11 := h11.below b15
  replace h13 := h13.below b15
  replace h14 := h14.below b15
  clear hHeld
  have hHeld := KEEP _ B
  go_wp2_with fail
  refine hK.out _ _ (L3.AllL.kept hHeld) ?_
  clear hK K
  (try simp only [Act.put, List.setIfInBounds_toArray, List.set_cons_zero, List.set_cons_succ])
  refine L3.late_step 42 (by kernel_rfl) rfl (fun K hK => ?_)
  go_simp
  refine (siMeet h15 (hz.below B) (by omega) (by omega)).mono ?_
  rintro e w16 ⟨o16, l16, c16, rfl, h16, b16⟩
  have B := B.trans (b16.mono B.size)
  replace h2 := h2.below b16
  replace h3 := h3.below b16
  replace h5 := h5.below b16
  replace h6 := h6.below b16
  replace h8 := h8.below b16
  replace h9 := h9.below b16
  replace h10 := h10.below b16
  replace h11 := h11.below b16
  replace h13 := h13.below b16
  replace h14 := h14.below b16
  replace h15 := h15.below b16
  clear hHeld
  have hHeld := KEEP _ B
  go_wp2_with fail
  refine hK.out _ _ (L3.AllL.kept hHeld) ?_
  clear hK K
  (try simp only [Act.put, List.setIfInBounds_toArray, List.set_cons_zero, List.set_cons_succ])
  refine L3.late_step 43 (by kernel_rfl) rfl (fun K hK => ?_)
  go_simp
  refine (siSame h14 h16 true (decide_eq_true (l_meet3 rX rY rZ))).mono ?_
  rintro e w17 ⟨rfl, b17⟩
  have B := B.trans (b17.mono B.size)
  replace h2 := h2.below b17
  replace h3 := h3.below b17
  replace h5 := h5.below b17
  replace h6 := h6.below b17
  replace h8 := h8.below b17
  replace h9 := h9.below b17
  replace h10 := h10.below b17
  replace h11 := h11.below b17
  replace h13 := h13.below b17
  replace h14 := h14.below b17
  replace h15 := h15.below b17
  replace h16 := h16.below b17
  clear hHeld
  have hHeld := KEEP _ B
  go_wp2_with fail
  refine hK.out _ _ (L3.AllL.kept hHeld) ?_
  clear hK K
  (try simp only [Act.put, List.setIfInBounds_toArray, List.set_cons_zero, List.set_cons_succ])
  refine L3.late_free 44 (v := .bool false) rfl (by kernel_rfl) (by kernel_rfl) (by kernel_rfl) (by kernel_rfl) (by kernel_rfl) (by kernel_rfl) (fun _ _ _ h => h) (Or.inl ⟨by rfl, ?_⟩) hHeld ?_
  · (intro u _; go_simp)
  (try simp only [Act.put, List.setIfInBounds_toArray, List.set_cons_zero, List.set_cons_succ])
  refine L3.late_free 45 (v := .bool false) rfl (by kernel_rfl) (by kernel_rfl) (by kernel_rfl) (by kernel_rfl) (by kernel_rfl) (by kernel_rfl) (fun _ _ _ h => h) (Or.inl ⟨by rfl, ?_⟩) hHeld ?_
  · (intro u _; go_simp)
  (try simp only [Act.put, List.setIfInBounds_toArray, List.set_cons_zero, List.set_cons_succ])
  refine L3.late_done (by kernel_rfl) ?_ _
  clear hHeld KEEP
  replace bw := bw.trans (B.mono (by have := bw.size; have := HG.out; omega))
  replace sx := sx.below B
  replace hx := hx.below B
  replace sy := sy.below B
  replace hy := hy.below B
  replace sz := sz.below B
  replace hz := hz.below B
  replace sn := sn.below B
  replace hn_ := hn_.below B
  clear h2 h3 h5 h6 h8 h9 h10 h11 h13 h14 h15 h16
  clear B
  go_upto_region 10 with fail
  have KEEP : ∀ u, Below w17.heap.size w17 u → L3.AllL u [(0, fun w' => (w'.cell? ⟨bx, 0, none⟩ = some (.slice xo xl xc))), (1, fun w' => (w'.cell? ⟨bY, 0, none⟩ = some (.slice yo yl yc))), (2, fun w' => (w'.cell? ⟨bz, 0, none⟩ = some (.slice zo zl zc))), (5, fun w' => (w'.cell? ⟨bx, 0, none⟩ = some (.slice xo xl xc))), (6, fun w' => (w'.cell? ⟨bY, 0, none⟩ = some (.slice yo yl yc))), (8, fun w' => (w'.cell? ⟨bx, 0, none⟩ = some (.slice xo xl xc))), (9, fun w' => (w'.cell? ⟨bz, 0, none⟩ = some (.slice zo zl zc))), (14, fun w' => (w'.cell? ⟨bx, 0, none⟩ = some (.slice xo xl xc))), (15, fun w' => (w'.cell? ⟨bY, 0, none⟩ = some (.slice yo yl yc))), (16, fun w' => (w'.cell? ⟨bz, 0, none⟩ = some (.slice zo zl zc))), (19, fun w' => (w'.cell? ⟨bx, 0, none⟩ = some (.slice xo xl xc))), (20, fun w' => (w'.cell? ⟨bY, 0, none⟩ = some (.slice yo yl yc))), (22, fun w' => (w'.cell? ⟨bx, 0, none⟩ = some (.slice xo xl xc))), (23, fun w' => (w'.cell? ⟨bz, 0, none⟩ = some (.slice zo zl zc)))] := fun u hu => ⟨(sx.below hu).cell, (sy.below hu).cell, (sz.below hu).cell, (sx.below hu).cell, (sy.below hu).cell, (sx.below hu).cell, (sz.below hu).cell, (sx.below hu).cell, (sy.below hu).cell, (sz.below hu).cell, (sx.below hu).cell, (sy.below hu).cell, (sx.below hu).cell, (sz.below hu).cell, trivial⟩
  refine L3.region_late [(0, fun w' => (w'.cell? ⟨bx, 0, none⟩ = some (.slice xo xl xc))), (1, fun w' => (w'.cell? ⟨bY, 0, none⟩ = some (.slice yo yl yc))), (2, fun w' => (w'.cell? ⟨bz, 0, none⟩ = some (.slice zo zl zc))), (5, fun w' => (w'.cell? ⟨bx, 0, none⟩ = some (.slice xo xl xc))), (6, fun w' => (w'.cell? ⟨bY, 0, none⟩ = some (.slice yo yl yc))), (8, fun w' => (w'.cell? ⟨bx, 0, none⟩ = some (.slice xo xl xc))), (9, fun w' => (w'.cell? ⟨bz, 0, none⟩ = some (.slice zo zl zc))), (14, fun w' => (w'.cell? ⟨bx, 0, none⟩ = some (.slice xo xl xc))), (15, fun w' => (w'.cell? ⟨bY, 0, none⟩ = some (.slice yo yl yc))), (16, fun w' => (w'.cell? ⟨bz, 0, none⟩ = some (.slice zo zl zc))), (19, fun w' => (w'.cell? ⟨bx, 0, none⟩ = some (.slice xo xl xc))), (20, fun w' => (w'.cell? ⟨bY, 0, none⟩ = some (.slice yo yl yc))), (22, fun w' => (w'.cell? ⟨bx, 0, none⟩ = some (.slice xo xl xc))), (23, fun w' => (w'.cell? ⟨bz, 0, none⟩ = some (.slice zo zl zc)))] (by kernel_rfl) ?_
  have B : Below w17.heap.size w17 w17.drew := (Below.refl _ _).drew
  obtain ⟨w18, hw18⟩ : ∃ u, u = w17.drew := ⟨_, rfl⟩
  rw [← hw18] at B ⊢
  clear hw18
  have hHeld := KEEP _ B
  refine L3.late_take 0 (v := .agg #[.slice xo xl xc]) rfl (by kernel_rfl) (List.Mem.head _) (by kernel_rfl) (by kernel_rfl) (by kernel_rfl) (by kernel_rfl) (fun _ _ _ h => h) (Or.inl ⟨by rfl, ?_⟩) hHeld ?_
  · (intro u hu; (try dsimp only at hu); go_split_ands; go_simp)
  (try simp only [Act.put, List.setIfInBounds_toArray, List.set_cons_zero, List.set_cons_succ])
  refine L3.late_take 1 (v := .agg #[.slice yo yl yc]) rfl (by kernel_rfl) (List.Mem.tail _ (List.Mem.head _)) (by kernel_rfl) (by kernel_rfl) (by kernel_rfl) (by kernel_rfl) (fun _ _ _ h => h) (Or.inl ⟨by rfl, ?_⟩) hHeld ?_
  · (intro u hu; (try dsimp only at hu); go_split_ands; go_simp)
  (try simp only [Act.put, List.setIfInBounds_toArray, List.set_cons_zero, List.set_cons_succ])
  refine L3.late_take 2 (v := .agg #[.slice zo zl zc]) rfl (by kernel_rfl) (List.Mem.tail _ (List.Mem.tail _ (List.Mem.head _))) (by kernel_rfl) (by kernel_rfl) (by kernel_rfl) (by kernel_rfl) (fun _ _ _ h => h) (Or.inl ⟨by rfl, ?_⟩) hHeld ?_
  · (intro u hu; (try dsimp only at hu); go_split_ands; go_simp)
  (try simp only [Act.put, List.setIfInBounds_toArray, List.set_cons_zero, List.set_cons_succ])
  refine L3.late_take 5 (v := .agg #[.slice xo xl xc]) rfl (by kernel_rfl) (List.Mem.tail _ (List.Mem.tail _ (List.Mem.tail _ (List.Mem.head _)))) (by kernel_rfl) (by kernel_rfl) (by kernel_rfl) (by kernel_rfl) (fun _ _ _ h => h) (Or.inl ⟨by rfl, ?_⟩) hHeld ?_
  · (intro u hu; (try dsimp only at hu); go_split_ands; go_simp)
  (try simp only [Act.put, List.setIfInBounds_toArray, List.set_cons_zero, List.set_cons_succ])
  refine L3.late_take 6 (v := .agg #[.slice yo yl yc]) rfl (by kernel_rfl) (List.Mem.tail _ (List.Mem.tail _ (List.Mem.tail _ (List.Mem.tail _ (List.Mem.head _))))) (by kernel_rfl) (by kernel_rfl) (by kernel_rfl) (by kernel_rfl) (fun _ _ _ h => h) (Or.inl ⟨by rfl, ?_⟩) hHeld ?_
  · (intro u hu; (try dsimp only at hu); go_split_ands; go_simp)
  (try simp only [Act.put, List.setIfInBounds_toArray, List.set_cons_zero, List.set_cons_succ])
  refine L3.late_take 8 (v := .agg #[.slice xo xl xc]) rfl (by kernel_rfl) (List.Mem.tail _ (List.Mem.tail _ (List.Mem.tail _ (List.Mem.tail _ (List.Mem.tail _ (List.Mem.head _)))))) (by kernel_rfl) (by kernel_rfl) (by kernel_rfl) (by kernel_rfl) (fun _ _ _ h => h) (Or.inl ⟨by rfl, ?_⟩) hHeld ?_
  · (intro u hu; (try dsimp only at hu); go_split_ands; go_simp)
  (try simp only [Act.put, List.setIfInBounds_toArray, List.set_cons_zero, List.set_cons_succ])
  refine L3.late_take 9 (v := .agg #[.slice zo zl zc]) rfl (by kernel_rfl) (List.Mem.tail _ (List.Mem.tail _ (List.Mem.tail _ (List.Mem.tail _ (List.Mem.tail _ (List.Mem.tail _ (List.Mem.head _))))))) (by kernel_rfl) (by kernel_rfl) (by kernel_rfl) (by kernel_rfl) (fun _ _ _ h => h) (Or.inl ⟨by rfl, ?_⟩) hHeld ?_
  · (intro u hu; (try dsimp only at hu); go_split_ands; go_simp)
  (try simp only [Act.put, List.setIfInBounds_toArray, List.set_cons_zero, List.set_cons_succ])
  refine L3.late_step 3 (by kernel_rfl) rfl (fun K hK => ?_)
  go_simp
  refine (siJoin (hy.below B) (hz.below B) (by omega) (by omega)).mono ?_
  rintro e w19 ⟨o19, l19, c19, rfl, h19, b19⟩
  have B := B.trans (b19.mono B.size)
  clear hHeld
  have hHeld := KEEP _ B
  go_wp2_with fail
  refine hK.out _ _ (L3.AllL.kept hHeld) ?_
  clear hK K
  (try simp only [Act.put, List.setIfInBounds_toArray, List.set_cons_zero, List.set_cons_succ])
  refine L3.late_step 4 (by kernel_rfl) rfl (fun K hK => ?_)
  go_simp
  refine (siMeet (hx.below B) h19 (by omega) (by omega)).mono ?_
  rintro e w20 ⟨o20, l20, c20, rfl, h20, b20⟩
  have B := B.trans (b20.mono B.size)
  replace h19 := h19.below b20
  clear hHeld
  have hHeld := KEEP _ B
  go_wp2_with fail
  refine hK.out _ _ (L3.AllL.kept hHeld) ?_
  clear hK K
  (try simp only [Act.put, List.setIfInBounds_toArray, List.set_cons_zero, List.set_cons_succ])
  refine L3.late_step 7 (by kernel_rfl) rfl (fun K hK => ?_)
  go_simp
  refine (siMeet (hx.below B) (hy.below B) (by omega) (by omega)).mono ?_
  rintro e w21 ⟨o21, l21, c21, rfl, h21, b21⟩
  have B := B.trans (b21.mono B.size)
  replace h19 := h19.below b21
  replace h20 := h20.below b21
  clear hHeld
  have hHeld := KEEP _ B
  go_wp2_with fail
  refine hK.out _ _ (L3.AllL.kept hHeld) ?_
  clear hK K
  (try simp only [Act.put, List.setIfInBounds_toArray, List.set_cons_zero, List.set_cons_succ])
  refine L3.late_step 10 (by kernel_rfl) rfl (fun K hK => ?_)
  go_simp
  refine (siMeet (hx.below B) (hz.below B) (by omega) (by omega)).mono ?_
  rintro e w22 ⟨o22, l22, c22, rfl, h22, b22⟩
  have B := B.trans (b22.mono B.size)
  replace h19 := h19.below b22
  replace h20 := h20.below b22
  replace h21 := h21.below b22
  clear hHeld
  have hHeld := KEEP _ B
  go_wp2_with fail
  refine hK.out _ _ (L3.AllL.kept hHeld) ?_
  clear hK K
  (try simp only [Act.put, List.setIfInBounds_toArray, List.set_cons_zero, List.set_cons_succ])
  refine L3.late_step 11 (by kernel_rfl) rfl (fun K hK => ?_)
  go_simp
  refine (siJoin h21 h22 (by omega) (by omega)).mono ?_
  rintro e w23 ⟨o23, l23, c23, rfl, h23, b23⟩
  have B := B.trans (b23.mono B.size)
  replace h19 := h19.below b23
  replace h20 := h20.below b23
  replace h21 := h21.below b23
  replace h22 := h22.below b23
  clear hHeld
  have hHeld := KEEP _ B
  go_wp2_with fail
  refine hK.out _ _ (L3.AllL.kept hHeld) ?_
  clear hK K
  (try simp only [Act.put, List.setIfInBounds_toArray, List.set_cons_zero, List.set_cons_succ])
  refine L3.late_step 12 (by kernel_rfl) rfl (fun K hK => ?_)
  go_simp
  refine (siSame h20 h23 true (decide_eq_true (l_over1 rX rY rZ))).mono ?_
  rintro e w24 ⟨rfl, b24⟩
  have B := B.trans (b24.mono B.size)
  replace h19 := h19.below b24
  replace h20 := h20.below b24
  replace h21 := h21.below b24
  replace h22 := h22.below b24
  replace h23 := h23.below b24
  clear hHeld
  have hHeld := KEEP _ B
  go_wp2_with fail
  refine hK.out _ _ (L3.AllL.kept hHeld) ?_
  clear hK K
  (try simp only [Act.put, List.setIfInBounds_toArray, List.set_cons_zero, List.set_cons_succ])
  refine L3.late_free 13 (v := .bool true) rfl (by kernel_rfl) (by kernel_rfl) (by kernel_rfl) (by kernel_rfl) (by kernel_rfl) (by kernel_rfl) (fun _ _ _ h => h) (Or.inl ⟨by rfl, ?_⟩) hHeld ?_
  · (intro u _; go_simp)
  (try simp only [Act.put, List.setIfInBounds_toArray, List.set_cons_zero, List.set_cons_succ])
  refine L3.late_take 14 (v := .agg #[.slice xo xl xc]) rfl (by kernel_rfl) (List.Mem.tail _ (List.Mem.tail _ (List.Mem.tail _ (List.Mem.tail _ (List.Mem.tail _ (List.Mem.tail _ (List.Mem.tail _ (List.Mem.head _)))))))) (by kernel_rfl) (by kernel_rfl) (by kernel_rfl) (by kernel_rfl) (fun _ _ _ h => h) (Or.inl ⟨by rfl, ?_⟩) hHeld ?_
  · (intro u hu; (try dsimp only at hu); go_split_ands; go_simp)
  (try simp only [Act.put, List.setIfInBounds_toArray, List.set_cons_zero, List.set_cons_succ])
  refine L3.late_take 15 (v := .agg #[.slice yo yl yc]) rfl (by kernel_rfl) (List.Mem.tail _ (List.Mem.tail _ (List.Mem.tail _ (List.Mem.tail _ (List.Mem.tail _ (List.Mem.tail _ (List.Mem.tail _ (List.Mem.tail _ (List.Mem.head _))))))))) (by kernel_rfl) (by kernel_rfl) (by kernel_rfl) (by kernel_rfl) (fun _ _ _ h => h) (Or.inl ⟨by rfl, ?_⟩) hHeld ?_
  · (intro u hu; (try dsimp only at hu); go_split_ands; go_simp)
  (try simp only [Act.put, List.setIfInBounds_toArray, List.set_cons_zero, List.set_cons_succ])
  refine L3.late_take 16 (v := .agg #[.slice zo zl zc]) rfl (by kernel_rfl) (List.Mem.tail _ (List.Mem.tail _ (List.Mem.tail _ (List.Mem.tail _ (List.Mem.tail _ (List.Mem.tail _ (List.Mem.tail _ (List.Mem.tail _ (List.Mem.tail _ (List.Mem.head _)))))))))) (by kernel_rfl) (by kernel_rfl) (by kernel_rfl) (by kernel_rfl) (fun _ _ _ h => h) (Or.inl ⟨by rfl, ?_⟩) hHeld ?_
  · (intro u hu; (try dsimp only at hu); go_split_ands; go_simp)
  (try simp only [Act.put, List.setIfInBounds_toArray, List.set_cons_zero, List.set_cons_succ])
  refine L3.late_take 19 (v := .agg #[.slice xo xl xc]) rfl (by kernel_rfl) (List.Mem.tail _ (List.Mem.tail _ (List.Mem.tail _ (List.Mem.tail _ (List.Mem.tail _ (List.Mem.tail _ (List.Mem.tail _ (List.Mem.tail _ (List.Mem.tail _ (List.Mem.tail _ (List.Mem.head _))))))))))) (by kernel_rfl) (by kernel_rfl) (by kernel_rfl) (by kernel_rfl) (fun _ _ _ h => h) (Or.inl ⟨by rfl, ?_⟩) hHeld ?_
  · (intro u hu; (try dsimp only at hu); go_split_ands; go_simp)
  (try simp only [Act.put, List.setIfInBounds_toArray, List.set_cons_zero, List.set_cons_succ])
  refine L3.late_take 20 (v := .agg #[.slice yo yl yc]) rfl (by kernel_rfl) (List.Mem.tail _ (List.Mem.tail _ (List.Mem.tail _ (List.Mem.tail _ (List.Mem.tail _ (List.Mem.tail _ (List.Mem.tail _ (List.Mem.tail _ (List.Mem.tail _ (List.Mem.tail _ (List.Mem.tail _ (List.Mem.head _)))))))))))) (by kernel_rfl) (by kernel_rfl) (by kernel_rfl) (by kernel_rfl) (fun _ _ _ h => h) (Or.inl ⟨by rfl, ?_⟩) hHeld ?_
  · (intro u hu; (try dsimp only at hu); go_split_ands; go_simp)
  (try simp only [Act.put, List.setIfInBounds_toArray, List.set_cons_zero, List.set_cons_succ])
  refine L3.late_take 22 (v := .agg #[.slice xo xl xc]) rfl (by kernel_rfl) (List.Mem.tail _ (List.Mem.tail _ (List.Mem.tail _ (List.Mem.tail _ (List.Mem.tail _ (List.Mem.tail _ (List.Mem.tail _ (List.Mem.tail _ (List.Mem.tail _ (List.Mem.tail _ (List.Mem.tail _ (List.Mem.tail _ (List.Mem.head _))))))))))))) (by kernel_rfl) (by kernel_rfl) (by kernel_rfl) (by kernel_rfl) (fun _ _ _ h => h) (Or.inl ⟨by rfl, ?_⟩) hHeld ?_
  · (intro u hu; (try dsimp only at hu); go_split_ands; go_simp)
  (try simp only [Act.put, List.setIfInBounds_toArray, List.set_cons_zero, List.set_cons_succ])
  refine L3.late_take 23 (v := .agg #[.slice zo zl zc]) rfl (by kernel_rfl) (List.Mem.tail _ (List.Mem.tail _ (List.Mem.tail _ (List.Mem.tail _ (List.Mem.tail _ (List.Mem.tail _ (List.Mem.tail _ (List.Mem.tail _ (List.Mem.tail _ (List.Mem.tail _ (List.Mem.tail _ (List.Mem.tail _ (List.Mem.tail _ (List.Mem.head _)))))))))))))) (by kernel_rfl) (by kernel_rfl) (by kernel_rfl) (by kernel_rfl) (fun _ _ _ h => h) (Or.inl ⟨by rfl, ?_⟩) hHeld ?_
  · (intro u hu; (try dsimp only at hu); go_split_ands; go_simp)
  (try simp only [Act.put, List.setIfInBounds_toArray, List.set_cons_zero, List.set_cons_succ])
  refine L3.late_step 17 (by kernel_rfl) rfl (fun K hK => ?_)
  go_simp
  refine (siMeet (hy.below B) (hz.below B) (by omega) (by omega)).mono ?_
  rintro e w25 ⟨o25, l25, c25, rfl, h25, b25⟩
  have B := B.trans (b25.mono B.size)
  replace h19 := h19.below b25
  replace h20 := h20.below b25
  replace h21 := h21.below b25
  replace h22 := h22.below b25
  replace h23 := h23.below b25
  clear hHeld
  have hHeld := KEEP _ B
  go_wp2_with fail
  refine hK.out _ _ (L3.AllL.kept hHeld) ?_
  clear hK K
  (try simp only [Act.put, List.setIfInBounds_toArray, List.set_cons_zero, List.set_cons_succ])
  refine L3.late_step 18 (by kernel_rfl) rfl (fun K hK => ?_)
  go_simp
  refine (siJoin (hx.below B) h25 (by omega) (by omega)).mono ?_
  rintro e w26 ⟨o26, l26, c26, rfl, h26, b26⟩
  have B := B.trans (b26.mono B.size)
  replace h19 := h19.below b26
  replace h20 := h20.below b26
  replace h21 := h21.below b26
  replace h22 := h22.below b26
  replace h23 := h23.below b26
  replace h25 := h25.below b26
  clear hHeld
  have hHeld := KEEP _ B
  go_wp2_with fail
  refine hK.out _ _ (L3.AllL.kept hHeld) ?_
  clear hK K
  (try simp only [Act.put, List.setIfInBounds_toArray, List.set_cons_zero, List.set_cons_succ])
  refine L3.late_step 21 (by kernel_rfl) rfl (fun K hK => ?_)
  go_simp
  refine (siJoin (hx.below B) (hy.below B) (by omega) (by omega)).mono ?_
  rintro e w27 ⟨o27, l27, c27, rfl, h27, b27⟩
  have B := B.trans (b27.mono B.size)
  replace h19 := h19.below b27
  replace h20 := h20.below b27
  replace h21 := h21.below b27
  replace h22 := h22.below b27
  replace h23 := h23.below b27
  replace h25 := h25.below b27
  replace h26 := h26.below b27
  clear hHeld
  have hHeld := KEEP _ B
  go_wp2_with fail
  refine hK.out _ _ (L3.AllL.kept hHeld) ?_
  clear hK K
  (try simp only [Act.put, List.setIfInBounds_toArray, List.set_cons_zero, List.set_cons_succ])
  refine L3.late_step 24 (by kernel_rfl) rfl (fun K hK => ?_)
  go_simp
  refine (siJoin (hx.below B) (hz.below B) (by omega) (by omega)).mono ?_
  rintro e w28 ⟨o28, l28, c28, rfl, h28, b28⟩
  have B := B.trans (b28.mono B.size)
  replace h19 := h19.below b28
  replace h20 := h20.below b28
  replace h21 := h21.below b28
  replace h22 := h22.below b28
  replace h23 := h23.below b28
  replace h25 := h25.below b28
  replace h26 := h26.below b28
  replace h27 := h27.below b28
  clear hHeld
  have hHeld := KEEP _ B
  go_wp2_with fail
  refine hK.out _ _ (L3.AllL.kept hHeld) ?_
  clear hK K
  (try simp only [Act.put, List.setIfInBounds_toArray, List.set_cons_zero, List.set_cons_succ])
  refine L3.late_step 25 (by kernel_rfl) rfl (fun K hK => ?_)
  go_simp
  refine (siMeet h27 h28 (by omega) (by omega)).mono ?_
  rintro e w29 ⟨o29, l29, c29, rfl, h29, b29⟩
  have B := B.trans (b29.mono B.size)
  replace h19 := h19.below b29
  replace h20 := h20.below b29
  replace h21 := h21.below b29
  replace h22 := h22.below b29
  replace h23 := h23.below b29
  replace h25 := h25.below b29
  replace h26 := h26.below b29
  replace h27 := h27.below b29
  replace h28 := h28.below b29
  clear hHeld
  have hHeld := KEEP _ B
  go_wp2_with fail
  refine hK.out _ _ (L3.AllL.kept hHeld) ?_
  clear hK K
  (try simp only [Act.put, List.setIfInBounds_toArray, List.set_cons_zero, List.set_cons_succ])
  refine L3.late_step 26 (by kernel_rfl) rfl (fun K hK => ?_)
  go_simp
  refine (siSame h26 h29 true (decide_eq_true (l_over2 rX rY rZ))).mono ?_
  rintro e w30 ⟨rfl, b30⟩
  have B := B.trans (b30.mono B.size)
  replace h19 := h19.below b30
  replace h20 := h20.below b30
  replace h21 := h21.below b30
  replace h22 := h22.below b30
  replace h23 := h23.below b30
  replace h25 := h25.below b30
  replace h26 := h26.below b30
  replace h27 := h27.below b30
  replace h28 := h28.below b30
  replace h29 := h29.below b30
  clear hHeld
  have hHeld := KEEP _ B
  go_wp2_with fail
  refine hK.out _ _ (L3.AllL.kept hHeld) ?_
  clear hK K
  (try simp only [Act.put, List.setIfInBounds_toArray, List.set_cons_zero, List.set_cons_succ])
  refine L3.late_free 27 (v := .bool true) rfl (by kernel_rfl) (by kernel_rfl) (by kernel_rfl) (by kernel_rfl) (by kernel_rfl) (by kernel_rfl) (fun _ _ _ h => h) (Or.inl ⟨by rfl, ?_⟩) hHeld ?_
  · (intro u _; go_simp)
  (try simp only [Act.put, List.setIfInBounds_toArray, List.set_cons_zero, List.set_cons_succ])
  refine L3.late_step 28 (by kernel_rfl) rfl (fun K hK => ?_)
  go_simp
  refine hK.out _ _ (L3.AllL.kept hHeld) ?_
  clear hK K
  (try simp only [Act.put, List.setIfInBounds_toArray, List.set_cons_zero, List.set_cons_succ])
  refine L3.late_done (by kernel_rfl) ?_ _
  clear hHeld KEEP
  replace bw := bw.trans (B.mono (by have := bw.size; have := HG.out; omega))
  replace sx := sx.below B
  replace hx := hx.below B
  replace sy := sy.below B
  replace hy := hy.below B
  replace sz := sz.below B
  replace hz := hz.below B
  replace sn := sn.below B
  replace hn_ := hn_.below B
  clear h19 h20 h21 h22 h23 h25 h26 h27 h28 h29
  clear B
  go_upto_region 11 with fail
  have KEEP : ∀ u, Below w30.heap.size w30 u → L3.AllL u [(0, fun w' => (w'.cell? ⟨bx, 0, none⟩ = some (.slice xo xl xc))), (1, fun w' => (w'.cell? ⟨bx, 0, none⟩ = some (.slice xo xl xc))), (3, fun w' => (w'.cell? ⟨bx, 0, none⟩ = some (.slice xo xl xc))), (6, fun w' => (w'.cell? ⟨bx, 0, none⟩ = some (.slice xo xl xc))), (7, fun w' => (w'.cell? ⟨bx, 0, none⟩ = some (.slice xo xl xc))), (9, fun w' => (w'.cell? ⟨bx, 0, none⟩ = some (.slice xo xl xc))), (13, fun w' => (w'.cell? ⟨bx, 0, none⟩ = some (.slice xo xl xc))), (14, fun w' => (w'.cell? ⟨bx, 0, none⟩ = some (.slice xo xl xc))), (16, fun w' => (w'.cell? ⟨bn, 0, none⟩ = some (.slice none 0 0))), (20, fun w' => (w'.cell? ⟨bx, 0, none⟩ = some (.slice xo xl xc))), (21, fun w' => (w'.cell? ⟨bx, 0, none⟩ = some (.slice xo xl xc))), (22, fun w' => (w'.cell? ⟨bY, 0, none⟩ = some (.slice yo yl yc))), (25, fun w' => (w'.cell? ⟨bx, 0, none⟩ = some (.slice xo xl xc)))] := fun u hu => ⟨(sx.below hu).cell, (sx.below hu).cell, (sx.below hu).cell, (sx.below hu).cell, (sx.below hu).cell, (sx.below hu).cell, (sx.below hu).cell, (sx.below hu).cell, (sn.below hu).cell, (sx.below hu).cell, (sx.below hu).cell, (sy.below hu).cell, (sx.below hu).cell, trivial⟩
  refine L3.region_late [(0, fun w' => (w'.cell? ⟨bx, 0, none⟩ = some (.slice xo xl xc))), (1, fun w' => (w'.cell? ⟨bx, 0, none⟩ = some (.slice xo xl xc))), (3, fun w' => (w'.cell? ⟨bx, 0, none⟩ = some (.slice xo xl xc))), (6, fun w' => (w'.cell? ⟨bx, 0, none⟩ = some (.slice xo xl xc))), (7, fun w' => (w'.cell? ⟨bx, 0, none⟩ = some (.slice xo xl xc))), (9, fun w' => (w'.cell? ⟨bx, 0, none⟩ = some (.slice xo xl xc))), (13, fun w' => (w'.cell? ⟨bx, 0, none⟩ = some (.slice xo xl xc))), (14, fun w' => (w'.cell? ⟨bx, 0, none⟩ = some (.slice xo xl xc))), (16, fun w' => (w'.cell? ⟨bn, 0, none⟩ = some (.slice none 0 0))), (20, fun w' => (w'.cell? ⟨bx, 0, none⟩ = some (.slice xo xl xc))), (21, fun w' => (w'.cell? ⟨bx, 0, none⟩ = some (.slice xo xl xc))), (22, fun w' => (w'.cell? ⟨bY, 0, none⟩ = some (.slice yo yl yc))), (25, fun w' => (w'.cell? ⟨bx, 0, none⟩ = some (.slice xo xl xc)))] (by kernel_rfl) ?_
  have B : Below w30.heap.size w30 w30.drew := (Below.refl _ _).drew
  obtain ⟨w31, hw31⟩ : ∃ u, u = w30.drew := ⟨_, rfl⟩
  rw [← hw31] at B ⊢
  clear hw31
  have hHeld := KEEP _ B
  refine L3.late_take 0 (v := .agg #[.slice xo xl xc]) rfl (by kernel_rfl) (List.Mem.head _) (by kernel_rfl) (by kernel_rfl) (by kernel_rfl) (by kernel_rfl) (fun _ _ _ h => h) (Or.inl ⟨by rfl, ?_⟩) hHeld ?_
  · (intro u hu; (try dsimp only at hu); go_split_ands; go_simp)
  (try simp only [Act.put, List.setIfInBounds_toArray, List.set_cons_zero, List.set_cons_succ])
  refine L3.late_take 1 (v := .agg #[.slice xo xl xc]) rfl (by kernel_rfl) (List.Mem.tail _ (List.Mem.head _)) (by kernel_rfl) (by kernel_rfl) (by kernel_rfl) (by kernel_rfl) (fun _ _ _ h => h) (Or.inl ⟨by rfl, ?_⟩) hHeld ?_
  · (intro u hu; (try dsimp only at hu); go_split_ands; go_simp)
  (try simp only [Act.put, List.setIfInBounds_toArray, List.set_cons_zero, List.set_cons_succ])
  refine L3.late_take 3 (v := .agg #[.slice xo xl xc]) rfl (by kernel_rfl) (List.Mem.tail _ (List.Mem.tail _ (List.Mem.head _))) (by kernel_rfl) (by kernel_rfl) (by kernel_rfl) (by kernel_rfl) (fun _ _ _ h => h) (Or.inl ⟨by rfl, ?_⟩) hHeld ?_
  · (intro u hu; (try dsimp only at hu); go_split_ands; go_simp)
  (try simp only [Act.put, List.setIfInBounds_toArray, List.set_cons_zero, List.set_cons_succ])
  refine L3.late_step 2 (by kernel_rfl) rfl (fun K hK => ?_)
  go_simp
  refine (siJoin (hx.below B) (hx.below B) (by omega) (by omega)).mono ?_
  rintro e w32 ⟨o32, l32, c32, rfl, h32, b32⟩
  have B := B.trans (b32.mono B.size)
  clear hHeld
  have hHeld := KEEP _ B
  go_wp2_with fail
  refine hK.out _ _ (L3.AllL.kept hHeld) ?_
  clear hK K
  (try simp only [Act.put, List.setIfInBounds_toArray, List.set_cons_zero, List.set_cons_succ])
  refine L3.late_step 4 (by kernel_rfl) rfl (fun K hK => ?_)
  go_simp
  refine (siSame h32 (hx.below B) true (decide_eq_true (l_self1 rX))).mono ?_
  rintro e w33 ⟨rfl, b33⟩
  have B := B.trans (b33.mono B.size)
  replace h32 := h32.below b33
  clear hHeld
  have hHeld := KEEP _ B
  go_wp2_with fail
  refine hK.out _ _ (L3.AllL.kept hHeld) ?_
  clear hK K
  (try simp only [Act.put, List.setIfInBounds_toArray, List.set_cons_zero, List.set_cons_succ])
  refine L3.late_free 5 (v := .bool true) rfl (by kernel_rfl) (by kernel_rfl) (by kernel_rfl) (by kernel_rfl) (by kernel_rfl) (by kernel_rfl) (fun _ _ _ h => h) (Or.inl ⟨by rfl, ?_⟩) hHeld ?_
  · (intro u _; go_simp)
  (try simp only [Act.put, List.setIfInBounds_toArray, List.set_cons_zero, List.set_cons_succ])
  refine L3.late_take 6 (v := .agg #[.slice xo xl xc]) rfl (by kernel_rfl) (List.Mem.tail _ (List.Mem.tail _ (List.Mem.tail _ (List.Mem.head _)))) (by kernel_rfl) (by kernel_rfl) (by kernel_rfl) (by kernel_rfl) (fun _ _ _ h => h) (Or.inl ⟨by rfl, ?_⟩) hHeld ?_
  · (intro u hu; (try dsimp only at hu); go_split_ands; go_simp)
  (try simp only [Act.put, List.setIfInBounds_toArray, List.set_cons_zero, List.set_cons_succ])
  refine L3.late_take 7 (v := .agg #[.slice xo xl xc]) rfl (by kernel_rfl) (List.Mem.tail _ (List.Mem.tail _ (List.Mem.tail _ (List.Mem.tail _ (List.Mem.head _))))) (by kernel_rfl) (by kernel_rfl) (by kernel_rfl) (by kernel_rfl) (fun _ _ _ h => h) (Or.inl ⟨by rfl, ?_⟩) hHeld ?_
  · (intro u hu; (try dsimp only at hu); go_split_ands; go_simp)
  (try simp only [Act.put, List.setIfInBounds_toArray, List.set_cons_zero, List.set_cons_succ])
  refine L3.late_take 9 (v := .agg #[.slice xo xl xc]) rfl (by kernel_rfl) (List.Mem.tail _ (List.Mem.tail _ (List.Mem.tail _ (List.Mem.tail _ (List.Mem.tail _ (List.Mem.head _)))))) (by kernel_rfl) (by kernel_rfl) (by kernel_rfl) (by kernel_rfl) (fun _ _ _ h => h) (Or.inl ⟨by rfl, ?_⟩) hHeld ?_
  · (intro u hu; (try dsimp only at hu); go_split_ands; go_simp)
  (try simp only [Act.put, List.setIfInBounds_toArray, List.set_cons_zero, List.set_cons_succ])
  refine L3.late_step 8 (by kernel_rfl) rfl (fun K hK => ?_)
  go_simp
  refine (siMeet (hx.below B) (hx.below B) (by omega) (by omega)).mono ?_
  rintro e w34 ⟨o34, l34, c34, rfl, h34, b34⟩
  have B := B.trans (b34.mono B.size)
  replace h32 := h32.below b34
  clear hHeld
  have hHeld := KEEP _ B
  go_wp2_with fail
  refine hK.out _ _ (L3.AllL.kept hHeld) ?_
  clear hK K
  (try simp only [Act.put, List.setIfInBounds_toArray, List.set_cons_zero, List.set_cons_succ])
  refine L3.late_step 10 (by kernel_rfl) rfl (fun K hK => ?_)
  go_simp
  refine (siSame h34 (hx.below B) true (decide_eq_true (l_self2 rX))).mono ?_
  rintro e w35 ⟨rfl, b35⟩
  have B := B.trans (b35.mono B.size)
  replace h32 := h32.below b35
  replace h34 := h34.below b35
  clear hHeld
  have hHeld := KEEP _ B
  go_wp2_with fail
  refine hK.out _ _ (L3.AllL.kept hHeld) ?_
  clear hK K
  (try simp only [Act.put, List.setIfInBounds_toArray, List.set_cons_zero, List.set_cons_succ])
  refine L3.late_free 11 (v := .bool true) rfl (by kernel_rfl) (by kernel_rfl) (by kernel_rfl) (by kernel_rfl) (by kernel_rfl) (by kernel_rfl) (fun _ _ _ h => h) (Or.inl ⟨by rfl, ?_⟩) hHeld ?_
  · (intro u _; go_simp)
  (try simp only [Act.put, List.setIfInBounds_toArray, List.set_cons_zero, List.set_cons_succ])
  refine L3.late_free 12 (v := .bool true) rfl (by kernel_rfl) (by kernel_rfl) (by kernel_rfl) (by kernel_rfl) (by kernel_rfl) (by kernel_rfl) (fun _ _ _ h => h) (Or.inl ⟨by rfl, ?_⟩) hHeld ?_
  · (intro u _; go_simp)
  (try simp only [Act.put, List.setIfInBounds_toArray, List.set_cons_zero, List.set_cons_succ])
  refine L3.late_take 13 (v := .agg #[.slice xo xl xc]) rfl (by kernel_rfl) (List.Mem.tail _ (List.Mem.tail _ (List.Mem.tail _ (List.Mem.tail _ (List.Mem.tail _ (List.Mem.tail _ (List.Mem.head _))))))) (by kernel_rfl) (by kernel_rfl) (by kernel_rfl) (by kernel_rfl) (fun _ _ _ h => h) (Or.inl ⟨by rfl, ?_⟩) hHeld ?_
  · (intro u hu; (try dsimp only at hu); go_split_ands; go_simp)
  (try simp only [Act.put, List.setIfInBounds_toArray, List.set_cons_zero, List.set_cons_succ])
  refine L3.late_take 14 (v := .agg #[.slice xo xl xc]) rfl (by kernel_rfl) (List.Mem.tail _ (List.Mem.tail _ (List.Mem.tail _ (List.Mem.tail _ (List.Mem.tail _ (List.Mem.tail _ (List.Mem.tail _ (List.Mem.head _)))))))) (by kernel_rfl) (by kernel_rfl) (by kernel_rfl) (by kernel_rfl) (fun _ _ _ h => h) (Or.inl ⟨by rfl, ?_⟩) hHeld ?_
  · (intro u hu; (try dsimp only at hu); go_split_ands; go_simp)
  (try simp only [Act.put, List.setIfInBounds_toArray, List.set_cons_zero, List.set_cons_succ])
  refine L3.late_take 16 (v := .agg #[.slice none 0 0]) rfl (by kernel_rfl) (List.Mem.tail _ (List.Mem.tail _ (List.Mem.tail _ (List.Mem.tail _ (List.Mem.tail _ (List.Mem.tail _ (List.Mem.tail _ (List.Mem.tail _ (List.Mem.head _))))))))) (by kernel_rfl) (by kernel_rfl) (by kernel_rfl) (by kernel_rfl) (fun _ _ _ h => h) (Or.inl ⟨by rfl, ?_⟩) hHeld ?_
  · (intro u hu; (try dsimp only at hu); go_split_ands; go_simp)
  (try simp only [Act.put, List.setIfInBounds_toArray, List.set_cons_zero, List.set_cons_succ])
  refine L3.late_step 15 (by kernel_rfl) rfl (fun K hK => ?_)
  go_simp
  refine (siMinus (hx.below B) (hx.below B) (by omega) (by omega)).mono ?_
  rintro e w36 ⟨o36, l36, c36, rfl, h36, b36⟩
  have B := B.trans (b36.mono B.size)
  replace h32 := h32.below b36
  replace h34 := h34.below b36
  clear hHeld
  have hHeld := KEEP _ B
  go_wp2_with fail
  refine hK.out _ _ (L3.AllL.kept hHeld) ?_
  clear hK K
  (try simp only [Act.put, List.setIfInBounds_toArray, List.set_cons_zero, List.set_cons_succ])
  refine L3.late_step 17 (by kernel_rfl) rfl (fun K hK => ?_)
  go_simp
  refine (siSame h36 (hn_.below B) true (decide_eq_true (l_self3 X))).mono ?_
  rintro e w37 ⟨rfl, b37⟩
  have B := B.trans (b37.mono B.size)
  replace h32 := h32.below b37
  replace h34 := h34.below b37
  replace h36 := h36.below b37
  clear hHeld
  have hHeld := KEEP _ B
  go_wp2_with fail
  refine hK.out _ _ (L3.AllL.kept hHeld) ?_
  clear hK K
  (try simp only [Act.put, List.setIfInBounds_toArray, List.set_cons_zero, List.set_cons_succ])
  refine L3.late_free 18 (v := .bool true) rfl (by kernel_rfl) (by kernel_rfl) (by kernel_rfl) (by kernel_rfl) (by kernel_rfl) (by kernel_rfl) (fun _ _ _ h => h) (Or.inl ⟨by rfl, ?_⟩) hHeld ?_
  · (intro u _; go_simp)
  (try simp only [Act.put, List.setIfInBounds_toArray, List.set_cons_zero, List.set_cons_succ])
  refine L3.late_free 19 (v := .bool true) rfl (by kernel_rfl) (by kernel_rfl) (by kernel_rfl) (by kernel_rfl) (by kernel_rfl) (by kernel_rfl) (fun _ _ _ h => h) (Or.inl ⟨by rfl, ?_⟩) hHeld ?_
  · (intro u _; go_simp)
  (try simp only [Act.put, List.setIfInBounds_toArray, List.set_cons_zero, List.set_cons_succ])
  refine L3.late_take 20 (v := .agg #[.slice xo xl xc]) rfl (by kernel_rfl) (List.Mem.tail _ (List.Mem.tail _ (List.Mem.tail _ (List.Mem.tail _ (List.Mem.tail _ (List.Mem.tail _ (List.Mem.tail _ (List.Mem.tail _ (List.Mem.tail _ (List.Mem.head _)))))))))) (by kernel_rfl) (by kernel_rfl) (by kernel_rfl) (by kernel_rfl) (fun _ _ _ h => h) (Or.inl ⟨by rfl, ?_⟩) hHeld ?_
  · (intro u hu; (try dsimp only at hu); go_split_ands; go_simp)
  (try simp only [Act.put, List.setIfInBounds_toArray, List.set_cons_zero, List.set_cons_succ])
  refine L3.late_take 21 (v := .agg #[.slice xo xl xc]) rfl (by kernel_rfl) (List.Mem.tail _ (List.Mem.tail _ (List.Mem.tail _ (List.Mem.tail _ (List.Mem.tail _ (List.Mem.tail _ (List.Mem.tail _ (List.Mem.tail _ (List.Mem.tail _ (List.Mem.tail _ (List.Mem.head _))))))))))) (by kernel_rfl) (by kernel_rfl) (by kernel_rfl) (by kernel_rfl) (fun _ _ _ h => h) (Or.inl ⟨by rfl, ?_⟩) hHeld ?_
  · (intro u hu; (try dsimp only at hu); go_split_ands; go_simp)
  (try simp only [Act.put, List.setIfInBounds_toArray, List.set_cons_zero, List.set_cons_succ])
  refine L3.late_take 22 (v := .agg #[.slice yo yl yc]) rfl (by kernel_rfl) (List.Mem.tail _ (List.Mem.tail _ (List.Mem.tail _ (List.Mem.tail _ (List.Mem.tail _ (List.Mem.tail _ (List.Mem.tail _ (List.Mem.tail _ (List.Mem.tail _ (List.Mem.tail _ (List.Mem.tail _ (List.Mem.head _)))))))))))) (by kernel_rfl) (by kernel_rfl) (by kernel_rfl) (by kernel_rfl) (fun _ _ _ h => h) (Or.inl ⟨by rfl, ?_⟩) hHeld ?_
  · (intro u hu; (try dsimp only at hu); go_split_ands; go_simp)
  (try simp only [Act.put, List.setIfInBounds_toArray, List.set_cons_zero, List.set_cons_succ])
  refine L3.late_take 25 (v := .agg #[.slice xo xl xc]) rfl (by kernel_rfl) (List.Mem.tail _ (List.Mem.tail _ (List.Mem.tail _ (List.Mem.tail _ (List.Mem.tail _ (List.Mem.tail _ (List.Mem.tail _ (List.Mem.tail _ (List.Mem.tail _ (List.Mem.tail _ (List.Mem.tail _ (List.Mem.tail _ (List.Mem.head _))))))))))))) (by kernel_rfl) (by kernel_rfl) (by kernel_rfl) (by kernel_rfl) (fun _ _ _ h => h) (Or.inl ⟨by rfl, ?_⟩) hHeld ?_
  · (intro u hu; (try dsimp only at hu); go_split_ands; go_simp)
  (try simp only [Act.put, List.setIfInBounds_toArray, List.set_cons_zero, List.set_cons_succ])
  refine L3.late_step 23 (by kernel_rfl) rfl (fun K hK => ?_)
  go_simp
  refine (siJoin (hx.below B) (hy.below B) (by omega) (by omega)).mono ?_
  rintro e w38 ⟨o38, l38, c38, rfl, h38, b38⟩
  have B := B.trans (b38.mono B.size)
  replace h32 := h32.below b38
  replace h34 := h34.below b38
  replace h36 := h36.below b38
  clear hHeld
  have hHeld := KEEP _ B
  go_wp2_with fail
  refine hK.out _ _ (L3.AllL.kept hHeld) ?_
  clear hK K
  (try simp only [Act.put, List.setIfInBounds_toArray, List.set_cons_zero, List.set_cons_succ])
  refine L3.late_step 24 (by kernel_rfl) rfl (fun K hK => ?_)
  go_simp
  refine (siMeet (hx.below B) h38 (by omega) (by omega)).mono ?_
  rintro e w39 ⟨o39, l39, c39, rfl, h39, b39⟩
  have B := B.trans (b39.mono B.size)
  replace h32 := h32.below b39
  replace h34 := h34.below b39
  replace h36 := h36.below b39
  replace h38 := h38.below b39
  clear hHeld
  have hHeld := KEEP _ B
  go_wp2_with fail
  refine hK.out _ _ (L3.AllL.kept hHeld) ?_
  clear hK K
  (try simp only [Act.put, List.setIfInBounds_toArray, List.set_cons_zero, List.set_cons_succ])
  refine L3.late_step 26 (by kernel_rfl) rfl (fun K hK => ?_)
  go_simp
  refine (siSame h39 (hx.below B) true (decide_eq_true (l_self4 rX rY))).mono ?_
  rintro e w40 ⟨rfl, b40⟩
  have B := B.trans (b40.mono B.size)
  replace h32 := h32.below b40
  replace h34 := h34.below b40
  replace h36 := h36.below b40
  replace h38 := h38.below b40
  replace h39 := h39.below b40
  clear hHeld
  have hHeld := KEEP _ B
  go_wp2_with fail
  refine hK.out _ _ (L3.AllL.kept hHeld) ?_
  clear hK K
  (try simp only [Act.put, List.setIfInBounds_toArray, List.set_cons_zero, List.set_cons_succ])
  refine L3.late_free 27 (v := .bool true) rfl (by kernel_rfl) (by kernel_rfl) (by kernel_rfl) (by kernel_rfl) (by kernel_rfl) (by kernel_rfl) (fun _ _ _ h => h) (Or.inl ⟨by rfl, ?_⟩) hHeld ?_
  · (intro u _; go_simp)
  (try simp only [Act.put, List.setIfInBounds_toArray, List.set_cons_zero, List.set_cons_succ])
  refine L3.late_step 28 (by kernel_rfl) rfl (fun K hK => ?_)
  go_simp
  refine hK.out _ _ (L3.AllL.kept hHeld) ?_
  clear hK K
  (try simp only [Act.put, List.setIfInBounds_toArray, List.set_cons_zero, List.set_cons_succ])
  refine L3.late_done (by kernel_rfl) ?_ _
  clear hHeld KEEP
  replace bw := bw.trans (B.mono (by have := bw.size; have := HG.out; omega))
  replace sx := sx.below B
  replace hx := hx.below B
  replace sy := sy.below B
  replace hy := hy.below B
  replace sz := sz.below B
  replace hz := hz.below B
  replace sn := sn.below B
  replace hn_ := hn_.below B
  clear h32 h34 h36 h38 h39
  clear B
  go_upto_region 12 with fail
  have KEEP : ∀ u, Below w40.heap.size w40 u → L3.AllL u [(0, fun w' => (w'.cell? ⟨bx, 0, none⟩ = some (.slice xo xl xc))), (1, fun w' => (w'.cell? ⟨bY, 0, none⟩ = some (.slice yo yl yc))), (3, fun w' => (w'.cell? ⟨bx, 0, none⟩ = some (.slice xo xl xc))), (4, fun w' => (w'.cell? ⟨bY, 0, none⟩ = some (.slice yo yl yc))), (7, fun w' => (w'.cell? ⟨bx, 0, none⟩ = some (.slice xo xl xc))), (10, fun w' => (w'.cell? ⟨bx, 0, none⟩ = some (.slice xo xl xc))), (11, fun w' => (w'.cell? ⟨bY, 0, none⟩ = some (.slice yo yl yc))), (13, fun w' => (w'.cell? ⟨bx, 0, none⟩ = some (.slice xo xl xc))), (14, fun w' => (w'.cell? ⟨bY, 0, none⟩ = some (.slice yo yl yc)))] := fun u hu => ⟨(sx.below hu).cell, (sy.below hu).cell, (sx.below hu).cell, (sy.below hu).cell, (sx.below hu).cell, (sx.below hu).cell, (sy.below hu).cell, (sx.below hu).cell, (sy.below hu).cell, trivial⟩
  refine L3.region_late [(0, fun w' => (w'.cell? ⟨bx, 0, none⟩ = some (.slice xo xl xc))), (1, fun w' => (w'.cell? ⟨bY, 0, none⟩ = some (.slice yo yl yc))), (3, fun w' => (w'.cell? ⟨bx, 0, none⟩ = some (.slice xo xl xc))), (4, fun w' => (w'.cell? ⟨bY, 0, none⟩ = some (.slice yo yl yc))), (7, fun w' => (w'.cell? ⟨bx, 0, none⟩ = some (.slice xo xl xc))), (10, fun w' => (w'.cell? ⟨bx, 0, none⟩ = some (.slice xo xl xc))), (11, fun w' => (w'.cell? ⟨bY, 0, none⟩ = some (.slice yo yl yc))), (13, fun w' => (w'.cell? ⟨bx, 0, none⟩ = some (.slice xo xl xc))), (14, fun w' => (w'.cell? ⟨bY, 0, none⟩ = some (.slice yo yl yc)))] (by kernel_rfl) ?_
  have B : Below w40.heap.size w40 w40.drew := (Below.refl _ _).drew
  obtain ⟨w41, hw41⟩ : ∃ u, u = w40.drew := ⟨_, rfl⟩
  rw [← hw41] at B ⊢
  clear hw41
  have hHeld := KEEP _ B
  refine L3.late_take 0 (v := .agg #[.slice xo xl xc]) rfl (by kernel_rfl) (List.Mem.head _) (by kernel_rfl) (by kernel_rfl) (by kernel_rfl) (by kernel_rfl) (fun _ _ _ h => h) (Or.inl ⟨by rfl, ?_⟩) hHeld ?_
  · (intro u hu; (try dsimp only at hu); go_split_ands; go_simp)
  (try simp only [Act.put, List.setIfInBounds_toArray, List.set_cons_zero, List.set_cons_succ])
  refine L3.late_take 1 (v := .agg #[.slice yo yl yc]) rfl (by kernel_rfl) (List.Mem.tail _ (List.Mem.head _)) (by kernel_rfl) (by kernel_rfl) (by kernel_rfl) (by kernel_rfl) (fun _ _ _ h => h) (Or.inl ⟨by rfl, ?_⟩) hHeld ?_
  · (intro u hu; (try dsimp only at hu); go_split_ands; go_simp)
  (try simp only [Act.put, List.setIfInBounds_toArray, List.set_cons_zero, List.set_cons_succ])
  refine L3.late_take 3 (v := .agg #[.slice xo xl xc]) rfl (by kernel_rfl) (List.Mem.tail _ (List.Mem.tail _ (List.Mem.head _))) (by kernel_rfl) (by kernel_rfl) (by kernel_rfl) (by kernel_rfl) (fun _ _ _ h => h) (Or.inl ⟨by rfl, ?_⟩) hHeld ?_
  · (intro u hu; (try dsimp only at hu); go_split_ands; go_simp)
  (try simp only [Act.put, List.setIfInBounds_toArray, List.set_cons_zero, List.set_cons_succ])
  refine L3.late_take 4 (v := .agg #[.slice yo yl yc]) rfl (by kernel_rfl) (List.Mem.tail _ (List.Mem.tail _ (List.Mem.tail _ (List.Mem.head _)))) (by kernel_rfl) (by kernel_rfl) (by kernel_rfl) (by kernel_rfl) (fun _ _ _ h => h) (Or.inl ⟨by rfl, ?_⟩) hHeld ?_
  · (intro u hu; (try dsimp only at hu); go_split_ands; go_simp)
  (try simp only [Act.put, List.setIfInBounds_toArray, List.set_cons_zero, List.set_cons_succ])
  refine L3.late_take 7 (v := .agg #[.slice xo xl xc]) rfl (by kernel_rfl) (List.Mem.tail _ (List.Mem.tail _ (List.Mem.tail _ (List.Mem.tail _ (List.Mem.head _))))) (by kernel_rfl) (by kernel_rfl) (by kernel_rfl) (by kernel_rfl) (fun _ _ _ h => h) (Or.inl ⟨by rfl, ?_⟩) hHeld ?_
  · (intro u hu; (try dsimp only at hu); go_split_ands; go_simp)
  (try simp only [Act.put, List.setIfInBounds_toArray, List.set_cons_zero, List.set_cons_succ])
  refine L3.late_step 2 (by kernel_rfl) rfl (fun K hK => ?_)
  go_simp
  refine (siMeet (hx.below B) (hy.below B) (by omega) (by omega)).mono ?_
  rintro e w42 ⟨o42, l42, c42, rfl, h42, b42⟩
  have B := B.trans (b42.mono B.size)
  clear hHeld
  have hHeld := KEEP _ B
  go_wp2_with fail
  refine hK.out _ _ (L3.AllL.kept hHeld) ?_
  clear hK K
  (try simp only [Act.put, List.setIfInBounds_toArray, List.set_cons_zero, List.set_cons_succ])
  refine L3.late_step 5 (by kernel_rfl) rfl (fun K hK => ?_)
  go_simp
  refine (siMinus (hx.below B) (hy.below B) (by omega) (by omega)).mono ?_
  rintro e w43 ⟨o43, l43, c43, rfl, h43, b43⟩
  have B := B.trans (b43.mono B.size)
  replace h42 := h42.below b43
  clear hHeld
  have hHeld := KEEP _ B
  go_wp2_with fail
  refine hK.out _ _ (L3.AllL.kept hHeld) ?_
  clear hK K
  (try simp only [Act.put, List.setIfInBounds_toArray, List.set_cons_zero, List.set_cons_succ])
  refine L3.late_step 6 (by kernel_rfl) rfl (fun K hK => ?_)
  go_simp
  refine (siJoin h42 h43 (by omega) (by omega)).mono ?_
  rintro e w44 ⟨o44, l44, c44, rfl, h44, b44⟩
  have B := B.trans (b44.mono B.size)
  replace h42 := h42.below b44
  replace h43 := h43.below b44
  clear hHeld
  have hHeld := KEEP _ B
  go_wp2_with fail
  refine hK.out _ _ (L3.AllL.kept hHeld) ?_
  clear hK K
  (try simp only [Act.put, List.setIfInBounds_toArray, List.set_cons_zero, List.set_cons_succ])
  refine L3.late_step 8 (by kernel_rfl) rfl (fun K hK => ?_)
  go_simp
  refine (siSame h44 (hx.below B) true (decide_eq_true (l_parts rX rY))).mono ?_
  rintro e w45 ⟨rfl, b45⟩
  have B := B.trans (b45.mono B.size)
  replace h42 := h42.below b45
  replace h43 := h43.below b45
  replace h44 := h44.below b45
  clear hHeld
  have hHeld := KEEP _ B
  go_wp2_with fail
  refine hK.out _ _ (L3.AllL.kept hHeld) ?_
  clear hK K
  (try simp only [Act.put, List.setIfInBounds_toArray, List.set_cons_zero, List.set_cons_succ])
  refine L3.late_free 9 (v := .bool true) rfl (by kernel_rfl) (by kernel_rfl) (by kernel_rfl) (by kernel_rfl) (by kernel_rfl) (by kernel_rfl) (fun _ _ _ h => h) (Or.inl ⟨by rfl, ?_⟩) hHeld ?_
  · (intro u _; go_simp)
  (try simp only [Act.put, List.setIfInBounds_toArray, List.set_cons_zero, List.set_cons_succ])
  refine L3.late_take 10 (v := .agg #[.slice xo xl xc]) rfl (by kernel_rfl) (List.Mem.tail _ (List.Mem.tail _ (List.Mem.tail _ (List.Mem.tail _ (List.Mem.tail _ (List.Mem.head _)))))) (by kernel_rfl) (by kernel_rfl) (by kernel_rfl) (by kernel_rfl) (fun _ _ _ h => h) (Or.inl ⟨by rfl, ?_⟩) hHeld ?_
  · (intro u hu; (try dsimp only at hu); go_split_ands; go_simp)
  (try simp only [Act.put, List.setIfInBounds_toArray, List.set_cons_zero, List.set_cons_succ])
  refine L3.late_take 11 (v := .agg #[.slice yo yl yc]) rfl (by kernel_rfl) (List.Mem.tail _ (List.Mem.tail _ (List.Mem.tail _ (List.Mem.tail _ (List.Mem.tail _ (List.Mem.tail _ (List.Mem.head _))))))) (by kernel_rfl) (by kernel_rfl) (by kernel_rfl) (by kernel_rfl) (fun _ _ _ h => h) (Or.inl ⟨by rfl, ?_⟩) hHeld ?_
  · (intro u hu; (try dsimp only at hu); go_split_ands; go_simp)
  (try simp only [Act.put, List.setIfInBounds_toArray, List.set_cons_zero, List.set_cons_succ])
  refine L3.late_take 13 (v := .agg #[.slice xo xl xc]) rfl (by kernel_rfl) (List.Mem.tail _ (List.Mem.tail _ (List.Mem.tail _ (List.Mem.tail _ (List.Mem.tail _ (List.Mem.tail _ (List.Mem.tail _ (List.Mem.head _)))))))) (by kernel_rfl) (by kernel_rfl) (by kernel_rfl) (by kernel_rfl) (fun _ _ _ h => h) (Or.inl ⟨by rfl, ?_⟩) hHeld ?_
  · (intro u hu; (try dsimp only at hu); go_split_ands; go_simp)
  (try simp only [Act.put, List.setIfInBounds_toArray, List.set_cons_zero, List.set_cons_succ])
  refine L3.late_take 14 (v := .agg #[.slice yo yl yc]) rfl (by kernel_rfl) (List.Mem.tail _ (List.Mem.tail _ (List.Mem.tail _ (List.Mem.tail _ (List.Mem.tail _ (List.Mem.tail _ (List.Mem.tail _ (List.Mem.tail _ (List.Mem.head _))))))))) (by kernel_rfl) (by kernel_rfl) (by kernel_rfl) (by kernel_rfl) (fun _ _ _ h => h) (Or.inl ⟨by rfl, ?_⟩) hHeld ?_
  · (intro u hu; (try dsimp only at hu); go_split_ands; go_simp)
  (try simp only [Act.put, List.setIfInBounds_toArray, List.set_cons_zero, List.set_cons_succ])
  refine L3.late_step 12 (by kernel_rfl) rfl (fun K hK => ?_)
  go_simp
  refine (siMeet (hx.below B) (hy.below B) (by omega) (by omega)).mono ?_
  rintro e w46 ⟨o46, l46, c46, rfl, h46, b46⟩
  have B := B.trans (b46.mono B.size)
  replace h42 := h42.below b46
  replace h43 := h43.below b46
  replace h44 := h44.below b46
  clear hHeld
  have hHeld := KEEP _ B
  go_wp2_with fail
  refine hK.out _ _ (L3.AllL.kept hHeld) ?_
  clear hK K
  (try simp only [Act.put, List.setIfInBounds_toArray, List.set_cons_zero, List.set_cons_succ])
  refine L3.late_step 15 (by kernel_rfl) rfl (fun K hK => ?_)
  go_simp
  refine (siMinus (hx.below B) (hy.below B) (by omega) (by omega)).mono ?_
  rintro e w47 ⟨o47, l47, c47, rfl, h47, b47⟩
  have B := B.trans (b47.mono B.size)
  replace h42 := h42.below b47
  replace h43 := h43.below b47
  replace h44 := h44.below b47
  replace h46 := h46.below b47
  clear hHeld
  have hHeld := KEEP _ B
  go_wp2_with fail
  refine hK.out _ _ (L3.AllL.kept hHeld) ?_
  clear hK K
  (try simp only [Act.put, List.setIfInBounds_toArray, List.set_cons_zero, List.set_cons_succ])
  refine L3.late_step 16 (by kernel_rfl) rfl (fun K hK => ?_)
  go_simp
  refine (siMeet h46 h47 (by omega) (by omega)).mono ?_
  rintro e w48 ⟨o48, l48, c48, rfl, h48, b48⟩
  have B := B.trans (b48.mono B.size)
  replace h42 := h42.below b48
  replace h43 := h43.below b48
  replace h44 := h44.below b48
  replace h46 := h46.below b48
  replace h47 := h47.below b48
  clear hHeld
  have hHeld := KEEP _ B
  go_wp2_with fail
  refine hK.out _ _ (L3.AllL.kept hHeld) ?_
  clear hK K
  (try simp only [Act.put, List.setIfInBounds_toArray, List.set_cons_zero, List.set_cons_succ])
  refine L3.late_step 17 (by kernel_rfl) rfl (fun K hK => ?_)
  go_simp
  refine (siLen h48 0 (l_apart X Y)).mono ?_
  rintro e w49 ⟨rfl, b49⟩
  have B := B.trans (b49.mono B.size)
  replace h42 := h42.below b49
  replace h43 := h43.below b49
  replace h44 := h44.below b49
  replace h46 := h46.below b49
  replace h47 := h47.below b49
  replace h48 := h48.below b49
  clear hHeld
  have hHeld := KEEP _ B
  go_wp2_with fail
  refine hK.out _ _ (L3.AllL.kept hHeld) ?_
  clear hK K
  (try simp only [Act.put, List.setIfInBounds_toArray, List.set_cons_zero, List.set_cons_succ])
  refine L3.late_free 18 (v := .bool true) rfl (by kernel_rfl) (by kernel_rfl) (by kernel_rfl) (by kernel_rfl) (by kernel_rfl) (by kernel_rfl) (fun _ _ _ h => h) (Or.inl ⟨by rfl, ?_⟩) hHeld ?_
  · (intro u _; go_simp)
  (try simp only [Act.put, List.setIfInBounds_toArray, List.set_cons_zero, List.set_cons_succ])
  refine L3.late_free 19 (v := .bool true) rfl (by kernel_rfl) (by kernel_rfl) (by kernel_rfl) (by kernel_rfl) (by kernel_rfl) (by kernel_rfl) (fun _ _ _ h => h) (Or.inl ⟨by rfl, ?_⟩) hHeld ?_
  · (intro u _; go_simp)
  (try simp only [Act.put, List.setIfInBounds_toArray, List.set_cons_zero, List.set_cons_succ])
  refine L3.late_step 20 (by kernel_rfl) rfl (fun K hK => ?_)
  go_simp
  refine hK.out _ _ (L3.AllL.kept hHeld) ?_
  clear hK K
  (try simp only [Act.put, List.setIfInBounds_toArray, List.set_cons_zero, List.set_cons_succ])
  refine L3.late_done (by kernel_rfl) ?_ _
  clear hHeld KEEP
  replace bw := bw.trans (B.mono (by have := bw.size; have := HG.out; omega))
  replace sx := sx.below B
  replace hx := hx.below B
  replace sy := sy.below B
  replace hy := hy.below B
  replace sz := sz.below B
  replace hz := hz.below B
  replace sn := sn.below B
  replace hn_ := hn_.below B
  clear h42 h43 h44 h46 h47 h48
  clear B
  go_upto_region 13 with fail
  have KEEP : ∀ u, Below w49.heap.size w49 u → L3.AllL u [(0, fun w' => (w'.cell? ⟨bn, 0, none⟩ = some (.slice none 0 0))), (1, fun w' => (w'.cell? ⟨bx, 0, none⟩ = some (.slice xo xl xc))), (4, fun w' => (w'.cell? ⟨bx, 0, none⟩ = some (.slice xo xl xc))), (5, fun w' => (w'.cell? ⟨bx, 0, none⟩ = some (.slice xo xl xc))), (6, fun w' => (w'.cell? ⟨bY, 0, none⟩ = some (.slice yo yl yc))), (11, fun w' => (w'.cell? ⟨bx, 0, none⟩ = some (.slice xo xl xc))), (12, fun w' => (w'.cell? ⟨bY, 0, none⟩ = some (.slice yo yl yc))), (14, fun w' => (w'.cell? ⟨bY, 0, none⟩ = some (.slice yo yl yc)))] := fun u hu => ⟨(sn.below hu).cell, (sx.below hu).cell, (sx.below hu).cell, (sx.below hu).cell, (sy.below hu).cell, (sx.below hu).cell, (sy.below hu).cell, (sy.below hu).cell, trivial⟩
  refine L3.region_late [(0, fun w' => (w'.cell? ⟨bn, 0, none⟩ = some (.slice none 0 0))), (1, fun w' => (w'.cell? ⟨bx, 0, none⟩ = some (.slice xo xl xc))), (4, fun w' => (w'.cell? ⟨bx, 0, none⟩ = some (.slice xo xl xc))), (5, fun w' => (w'.cell? ⟨bx, 0, none⟩ = some (.slice xo xl xc))), (6, fun w' => (w'.cell? ⟨bY, 0, none⟩ = some (.slice yo yl yc))), (11, fun w' => (w'.cell? ⟨bx, 0, none⟩ = some (.slice xo xl xc))), (12, fun w' => (w'.cell? ⟨bY, 0, none⟩ = some (.slice yo yl yc))), (14, fun w' => (w'.cell? ⟨bY, 0, none⟩ = some (.slice yo yl yc)))] (by kernel_rfl) ?_
  have B : Below w49.heap.size w49 w49.drew := (Below.refl _ _).drew
  obtain ⟨w50, hw50⟩ : ∃ u, u = w49.drew := ⟨_, rfl⟩
  rw [← hw50] at B ⊢
  clear hw50
  have hHeld := KEEP _ B
  refine L3.late_take 0 (v := .agg #[.slice none 0 0]) rfl (by kernel_rfl) (List.Mem.head _) (by kernel_rfl) (by kernel_rfl) (by kernel_rfl) (by kernel_rfl) (fun _ _ _ h => h) (Or.inl ⟨by rfl, ?_⟩) hHeld ?_
  · (intro u hu; (try dsimp only at hu); go_split_ands; go_simp)
  (try simp only [Act.put, List.setIfInBounds_toArray, List.set_cons_zero, List.set_cons_succ])
  refine L3.late_take 1 (v := .agg #[.slice xo xl xc]) rfl (by kernel_rfl) (List.Mem.tail _ (List.Mem.head _)) (by kernel_rfl) (by kernel_rfl) (by kernel_rfl) (by kernel_rfl) (fun _ _ _ h => h) (Or.inl ⟨by rfl, ?_⟩) hHeld ?_
  · (intro u hu; (try dsimp only at hu); go_split_ands; go_simp)
  (try simp only [Act.put, List.setIfInBounds_toArray, List.set_cons_zero, List.set_cons_succ])
  refine L3.late_step 2 (by kernel_rfl) rfl (fun K hK => ?_)
  go_simp
  refine (siWithin (hn_.below B) (hx.below B) (by omega) true (w_none X)).mono ?_
  rintro e w51 ⟨rfl, b51⟩
  have B := B.trans (b51.mono B.size)
  clear hHeld
  have hHeld := KEEP _ B
  go_wp2_with fail
  refine hK.out _ _ (L3.AllL.kept hHeld) ?_
  clear hK K
  (try simp only [Act.put, List.setIfInBounds_toArray, List.set_cons_zero, List.set_cons_succ])
  refine L3.late_free 3 (v := .bool true) rfl (by kernel_rfl) (by kernel_rfl) (by kernel_rfl) (by kernel_rfl) (by kernel_rfl) (by kernel_rfl) (fun _ _ _ h => h) (Or.inl ⟨by rfl, ?_⟩) hHeld ?_
  · (intro u _; go_simp)
  (try simp only [Act.put, List.setIfInBounds_toArray, List.set_cons_zero, List.set_cons_succ])
  refine L3.late_take 4 (v := .agg #[.slice xo xl xc]) rfl (by kernel_rfl) (List.Mem.tail _ (List.Mem.tail _ (List.Mem.head _))) (by kernel_rfl) (by kernel_rfl) (by kernel_rfl) (by kernel_rfl) (fun _ _ _ h => h) (Or.inl ⟨by rfl, ?_⟩) hHeld ?_
  · (intro u hu; (try dsimp only at hu); go_split_ands; go_simp)
  (try simp only [Act.put, List.setIfInBounds_toArray, List.set_cons_zero, List.set_cons_succ])
  refine L3.late_take 5 (v := .agg #[.slice xo xl xc]) rfl (by kernel_rfl) (List.Mem.tail _ (List.Mem.tail _ (List.Mem.tail _ (List.Mem.head _)))) (by kernel_rfl) (by kernel_rfl) (by kernel_rfl) (by kernel_rfl) (fun _ _ _ h => h) (Or.inl ⟨by rfl, ?_⟩) hHeld ?_
  · (intro u hu; (try dsimp only at hu); go_split_ands; go_simp)
  (try simp only [Act.put, List.setIfInBounds_toArray, List.set_cons_zero, List.set_cons_succ])
  refine L3.late_take 6 (v := .agg #[.slice yo yl yc]) rfl (by kernel_rfl) (List.Mem.tail _ (List.Mem.tail _ (List.Mem.tail _ (List.Mem.tail _ (List.Mem.head _))))) (by kernel_rfl) (by kernel_rfl) (by kernel_rfl) (by kernel_rfl) (fun _ _ _ h => h) (Or.inl ⟨by rfl, ?_⟩) hHeld ?_
  · (intro u hu; (try dsimp only at hu); go_split_ands; go_simp)
  (try simp only [Act.put, List.setIfInBounds_toArray, List.set_cons_zero, List.set_cons_succ])
  refine L3.late_step 7 (by kernel_rfl) rfl (fun K hK => ?_)
  go_simp
  refine (siJoin (hx.below B) (hy.below B) (by omega) (by omega)).mono ?_
  rintro e w52 ⟨o52, l52, c52, rfl, h52, b52⟩
  have B := B.trans (b52.mono B.size)
  clear hHeld
  have hHeld := KEEP _ B
  go_wp2_with fail
  refine hK.out _ _ (L3.AllL.kept hHeld) ?_
  clear hK K
  (try simp only [Act.put, List.setIfInBounds_toArray, List.set_cons_zero, List.set_cons_succ])
  refine L3.late_step 8 (by kernel_rfl) rfl (fun K hK => ?_)
  go_simp
  refine (siWithin (hx.below B) h52 (by omega) true (w_join X Y)).mono ?_
  rintro e w53 ⟨rfl, b53⟩
  have B := B.trans (b53.mono B.size)
  replace h52 := h52.below b53
  clear hHeld
  have hHeld := KEEP _ B
  go_wp2_with fail
  refine hK.out _ _ (L3.AllL.kept hHeld) ?_
  clear hK K
  (try simp only [Act.put, List.setIfInBounds_toArray, List.set_cons_zero, List.set_cons_succ])
  refine L3.late_free 9 (v := .bool true) rfl (by kernel_rfl) (by kernel_rfl) (by kernel_rfl) (by kernel_rfl) (by kernel_rfl) (by kernel_rfl) (fun _ _ _ h => h) (Or.inl ⟨by rfl, ?_⟩) hHeld ?_
  · (intro u _; go_simp)
  (try simp only [Act.put, List.setIfInBounds_toArray, List.set_cons_zero, List.set_cons_succ])
  refine L3.late_free 10 (v := .bool true) rfl (by kernel_rfl) (by kernel_rfl) (by kernel_rfl) (by kernel_rfl) (by kernel_rfl) (by kernel_rfl) (fun _ _ _ h => h) (Or.inl ⟨by rfl, ?_⟩) hHeld ?_
  · (intro u _; go_simp)
  (try simp only [Act.put, List.setIfInBounds_toArray, List.set_cons_zero, List.set_cons_succ])
  refine L3.late_take 11 (v := .agg #[.slice xo xl xc]) rfl (by kernel_rfl) (List.Mem.tail _ (List.Mem.tail _ (List.Mem.tail _ (List.Mem.tail _ (List.Mem.tail _ (List.Mem.head _)))))) (by kernel_rfl) (by kernel_rfl) (by kernel_rfl) (by kernel_rfl) (fun _ _ _ h => h) (Or.inl ⟨by rfl, ?_⟩) hHeld ?_
  · (intro u hu; (try dsimp only at hu); go_split_ands; go_simp)
  (try simp only [Act.put, List.setIfInBounds_toArray, List.set_cons_zero, List.set_cons_succ])
  refine L3.late_take 12 (v := .agg #[.slice yo yl yc]) rfl (by kernel_rfl) (List.Mem.tail _ (List.Mem.tail _ (List.Mem.tail _ (List.Mem.tail _ (List.Mem.tail _ (List.Mem.tail _ (List.Mem.head _))))))) (by kernel_rfl) (by kernel_rfl) (by kernel_rfl) (by kernel_rfl) (fun _ _ _ h => h) (Or.inl ⟨by rfl, ?_⟩) hHeld ?_
  · (intro u hu; (try dsimp only at hu); go_split_ands; go_simp)
  (try simp only [Act.put, List.setIfInBounds_toArray, List.set_cons_zero, List.set_cons_succ])
  refine L3.late_take 14 (v := .agg #[.slice yo yl yc]) rfl (by kernel_rfl) (List.Mem.tail _ (List.Mem.tail _ (List.Mem.tail _ (List.Mem.tail _ (List.Mem.tail _ (List.Mem.tail _ (List.Mem.tail _ (List.Mem.head _)))))))) (by kernel_rfl) (by kernel_rfl) (by kernel_rfl) (by kernel_rfl) (fun _ _ _ h => h) (Or.inl ⟨by rfl, ?_⟩) hHeld ?_
  · (intro u hu; (try dsimp only at hu); go_split_ands; go_simp)
  (try simp only [Act.put, List.setIfInBounds_toArray, List.set_cons_zero, List.set_cons_succ])
  refine L3.late_step 13 (by kernel_rfl) rfl (fun K hK => ?_)
  go_simp
  refine (siMeet (hx.below B) (hy.below B) (by omega) (by omega)).mono ?_
  rintro e w54 ⟨o54, l54, c54, rfl, h54, b54⟩
  have B := B.trans (b54.mono B.size)
  replace h52 := h52.below b54
  clear hHeld
  have hHeld := KEEP _ B
  go_wp2_with fail
  refine hK.out _ _ (L3.AllL.kept hHeld) ?_
  clear hK K
  (try simp only [Act.put, List.setIfInBounds_toArray, List.set_cons_zero, List.set_cons_succ])
  refine L3.late_step 15 (by kernel_rfl) rfl (fun K hK => ?_)
  go_simp
  refine (siWithin h54 (hy.below B) (by omega) true (w_meet X Y)).mono ?_
  rintro e w55 ⟨rfl, b55⟩
  have B := B.trans (b55.mono B.size)
  replace h52 := h52.below b55
  replace h54 := h54.below b55
  clear hHeld
  have hHeld := KEEP _ B
  go_wp2_with fail
  refine hK.out _ _ (L3.AllL.kept hHeld) ?_
  clear hK K
  (try simp only [Act.put, List.setIfInBounds_toArray, List.set_cons_zero, List.set_cons_succ])
  refine L3.late_free 16 (v := .bool true) rfl (by kernel_rfl) (by kernel_rfl) (by kernel_rfl) (by kernel_rfl) (by kernel_rfl) (by kernel_rfl) (fun _ _ _ h => h) (Or.inl ⟨by rfl, ?_⟩) hHeld ?_
  · (intro u _; go_simp)
  (try simp only [Act.put, List.setIfInBounds_toArray, List.set_cons_zero, List.set_cons_succ])
  refine L3.late_step 17 (by kernel_rfl) rfl (fun K hK => ?_)
  go_simp
  refine hK.out _ _ (L3.AllL.kept hHeld) ?_
  clear hK K
  (try simp only [Act.put, List.setIfInBounds_toArray, List.set_cons_zero, List.set_cons_succ])
  refine L3.late_done (by kernel_rfl) ?_ _
  clear hHeld KEEP
  replace bw := bw.trans (B.mono (by have := bw.size; have := HG.out; omega))
  replace sx := sx.below B
  replace hx := hx.below B
  replace sy := sy.below B
  replace hy := hy.below B
  replace sz := sz.below B
  replace hz := hz.below B
  replace sn := sn.below B
  replace hn_ := hn_.below B
  clear h52 h54
  clear B
  obtain ⟨q1, hq1⟩ : ∃ q, withinR X Y = q := ⟨_, rfl⟩
  obtain ⟨q2, hq2⟩ : ∃ q, withinR Y Z = q := ⟨_, rfl⟩
  have HQ3 : Hid (q1 = true → q2 = true → withinR X Z = true) := fun h1 h2 => w_chain (hq1.trans h1) (hq2.trans h2)
  go_upto_region 14 with fail
  go_cut [16] from 178 to 192 (fun t wx => t = .bool true ∧ Hid (Below w55.heap.size w55 wx))
  case first =>
    have cx := sx.cell
    have cy := sy.cell
    have C := siWithin hx hy (by omega) q1 hq1
    go_wp2_with fail
    refine C.mono ?_
    rintro e k1 ⟨rfl, B⟩
    clear C cx cy
    have ey := (sy.below B).cell
    have ez := (sz.below B).cell
    cases q1 with
    | false =>
      go_wp2_with fail
      go_meet
      exact ⟨by first | rfl | simp, B⟩
    | true =>
      have C := siWithin (hy.below B) (hz.below B) (by omega) q2 hq2
      go_wp2_with fail
      refine C.mono ?_
      rintro e k2 ⟨rfl, B2⟩
      clear C ey ez
      have B := B.trans (B2.mono B.size)
      have ex := (sx.below B).cell
      have ez := (sz.below B).cell
      cases q2 with
      | false =>
        go_wp2_with fail
        go_meet
        exact ⟨by first | rfl | simp, B⟩
      | true =>
        have C := siWithin (hx.below B) (hz.below B) (by omega) true (HQ3.out (by trivial) (by trivial))
        go_wp2_with fail
        refine C.mono ?_
        rintro e k3 ⟨rfl, B3⟩
        clear C
        have B := B.trans (B3.mono B.size)
        go_wp2_with fail
        go_meet
        exact ⟨by first | rfl | simp, B⟩
  case rest =>
    obtain ⟨rfl, HB⟩ := hcut
    have B := HB.out
    clear HB hq1 hq2 HQ3
    replace bw := bw.trans (B.mono (by have := bw.size; have := HG.out; omega))
    replace sx := sx.below B
    replace hx := hx.below B
    replace sy := sy.below B
    replace hy := hy.below B
    replace sz := sz.below B
    replace hz := hz.below B
    replace sn := sn.below B
    replace hn_ := hn_.below B
    obtain ⟨j1, hj1⟩ : ∃ j, (joinR X Y).length = j := ⟨_, rfl⟩
    obtain ⟨j2, hj2⟩ : ∃ j, (meetR X Y).length = j := ⟨_, rfl⟩
    obtain ⟨j3, hj3⟩ : ∃ j, X.length = j := ⟨_, rfl⟩
    obtain ⟨j4, hj4⟩ : ∃ j, Y.length = j := ⟨_, rfl⟩
    have hj := len_both rX rY
    have hjx := hx.len
    have hjy := hy.len
    rw [hj1, hj2, hj3, hj4] at hj
    rw [hj3] at hjx
    rw [hj4] at hjy
    obtain ⟨j5, hj5⟩ : ∃ j, j = j3 + j4 := ⟨_, rfl⟩
    have ej1 : (j1 : Int) + (j2 : Int) = (j5 : Int) := by omega
    have ej2 : (j3 : Int) + (j4 : Int) = (j5 : Int) := by omega
    have wj5 : IntKind.i64.wrap (j5 : Int) = (j5 : Int) := by rw [IntKind.wrap_i64]; omega
    have rfl_j : Hid ((joinR X Y).length = j1) := hj1
    have rfl_m : Hid ((meetR X Y).length = j2) := hj2
    have rfl_x : Hid (X.length = j3) := hj3
    have rfl_y : Hid (Y.length = j4) := hj4
    clear hj1 hj2 hj3 hj4 hj5 hj hjx hjy
    go_upto_region 15 with fail
    have KEEP : ∀ u, Below wc.heap.size wc u → L3.AllL u [(0, fun w' => (w'.cell? ⟨bx, 0, none⟩ = some (.slice xo xl xc))), (1, fun w' => (w'.cell? ⟨bY, 0, none⟩ = some (.slice yo yl yc))), (4, fun w' => (w'.cell? ⟨bx, 0, none⟩ = some (.slice xo xl xc))), (5, fun w' => (w'.cell? ⟨bY, 0, none⟩ = some (.slice yo yl yc))), (9, fun w' => (w'.cell? ⟨bx, 0, none⟩ = some (.slice xo xl xc))), (11, fun w' => (w'.cell? ⟨bY, 0, none⟩ = some (.slice yo yl yc)))] := fun u hu => ⟨(sx.below hu).cell, (sy.below hu).cell, (sx.below hu).cell, (sy.below hu).cell, (sx.below hu).cell, (sy.below hu).cell, trivial⟩
    refine L3.region_late [(0, fun w' => (w'.cell? ⟨bx, 0, none⟩ = some (.slice xo xl xc))), (1, fun w' => (w'.cell? ⟨bY, 0, none⟩ = some (.slice yo yl yc))), (4, fun w' => (w'.cell? ⟨bx, 0, none⟩ = some (.slice xo xl xc))), (5, fun w' => (w'.cell? ⟨bY, 0, none⟩ = some (.slice yo yl yc))), (9, fun w' => (w'.cell? ⟨bx, 0, none⟩ = some (.slice xo xl xc))), (11, fun w' => (w'.cell? ⟨bY, 0, none⟩ = some (.slice yo yl yc)))] (by kernel_rfl) ?_
    have B : Below wc.heap.size wc wc.drew := (Below.refl _ _).drew
    obtain ⟨w56, hw56⟩ : ∃ u, u = wc.drew := ⟨_, rfl⟩
    rw [← hw56] at B ⊢
    clear hw56
    have hHeld := KEEP _ B
    refine L3.late_take 0 (v := .agg #[.slice xo xl xc]) rfl (by kernel_rfl) (List.Mem.head _) (by kernel_rfl) (by kernel_rfl) (by kernel_rfl) (by kernel_rfl) (fun _ _ _ h => h) (Or.inl ⟨by rfl, ?_⟩) hHeld ?_
    · (intro u hu; (try dsimp only at hu); go_split_ands; go_simp)
    (try simp only [Act.put, List.setIfInBounds_toArray, List.set_cons_zero, List.set_cons_succ])
    refine L3.late_take 1 (v := .agg #[.slice yo yl yc]) rfl (by kernel_rfl) (List.Mem.tail _ (List.Mem.head _)) (by kernel_rfl) (by kernel_rfl) (by kernel_rfl) (by kernel_rfl) (fun _ _ _ h => h) (Or.inl ⟨by rfl, ?_⟩) hHeld ?_
    · (intro u hu; (try dsimp only at hu); go_split_ands; go_simp)
    (try simp only [Act.put, List.setIfInBounds_toArray, List.set_cons_zero, List.set_cons_succ])
    refine L3.late_take 4 (v := .agg #[.slice xo xl xc]) rfl (by kernel_rfl) (List.Mem.tail _ (List.Mem.tail _ (List.Mem.head _))) (by kernel_rfl) (by kernel_rfl) (by kernel_rfl) (by kernel_rfl) (fun _ _ _ h => h) (Or.inl ⟨by rfl, ?_⟩) hHeld ?_
    · (intro u hu; (try dsimp only at hu); go_split_ands; go_simp)
    (try simp only [Act.put, List.setIfInBounds_toArray, List.set_cons_zero, List.set_cons_succ])
    refine L3.late_take 5 (v := .agg #[.slice yo yl yc]) rfl (by kernel_rfl) (List.Mem.tail _ (List.Mem.tail _ (List.Mem.tail _ (List.Mem.head _)))) (by kernel_rfl) (by kernel_rfl) (by kernel_rfl) (by kernel_rfl) (fun _ _ _ h => h) (Or.inl ⟨by rfl, ?_⟩) hHeld ?_
    · (intro u hu; (try dsimp only at hu); go_split_ands; go_simp)
    (try simp only [Act.put, List.setIfInBounds_toArray, List.set_cons_zero, List.set_cons_succ])
    refine L3.late_take 9 (v := .agg #[.slice xo xl xc]) rfl (by kernel_rfl) (List.Mem.tail _ (List.Mem.tail _ (List.Mem.tail _ (List.Mem.tail _ (List.Mem.head _))))) (by kernel_rfl) (by kernel_rfl) (by kernel_rfl) (by kernel_rfl) (fun _ _ _ h => h) (Or.inl ⟨by rfl, ?_⟩) hHeld ?_
    · (intro u hu; (try dsimp only at hu); go_split_ands; go_simp)
    (try simp only [Act.put, List.setIfInBounds_toArray, List.set_cons_zero, List.set_cons_succ])
    refine L3.late_take 11 (v := .agg #[.slice yo yl yc]) rfl (by kernel_rfl) (List.Mem.tail _ (List.Mem.tail _ (List.Mem.tail _ (List.Mem.tail _ (List.Mem.tail _ (List.Mem.head _)))))) (by kernel_rfl) (by kernel_rfl) (by kernel_rfl) (by kernel_rfl) (fun _ _ _ h => h) (Or.inl ⟨by rfl, ?_⟩) hHeld ?_
    · (intro u hu; (try dsimp only at hu); go_split_ands; go_simp)
    (try simp only [Act.put, List.setIfInBounds_toArray, List.set_cons_zero, List.set_cons_succ])
    refine L3.late_step 2 (by kernel_rfl) rfl (fun K hK => ?_)
    go_simp
    refine (siJoin (hx.below B) (hy.below B) (by omega) (by omega)).mono ?_
    rintro e w57 ⟨o57, l57, c57, rfl, h57, b57⟩
    have B := B.trans (b57.mono B.size)
    clear hHeld
    have hHeld := KEEP _ B
    go_wp2_with fail
    refine hK.out _ _ (L3.AllL.kept hHeld) ?_
    clear hK K
    (try simp only [Act.put, List.setIfInBounds_toArray, List.set_cons_zero, List.set_cons_succ])
    refine L3.late_step 3 (by kernel_rfl) rfl (fun K hK => ?_)
    go_simp
    refine (siLen h57 j1 rfl_j.out).mono ?_
    rintro e w58 ⟨rfl, b58⟩
    have B := B.trans (b58.mono B.size)
    replace h57 := h57.below b58
    clear hHeld
    have hHeld := KEEP _ B
    go_wp2_with fail
    refine hK.out _ _ (L3.AllL.kept hHeld) ?_
    clear hK K
    (try simp only [Act.put, List.setIfInBounds_toArray, List.set_cons_zero, List.set_cons_succ])
    refine L3.late_step 6 (by kernel_rfl) rfl (fun K hK => ?_)
    go_simp
    refine (siMeet (hx.below B) (hy.below B) (by omega) (by omega)).mono ?_
    rintro e w59 ⟨o59, l59, c59, rfl, h59, b59⟩
    have B := B.trans (b59.mono B.size)
    replace h57 := h57.below b59
    clear hHeld
    have hHeld := KEEP _ B
    go_wp2_with fail
    refine hK.out _ _ (L3.AllL.kept hHeld) ?_
    clear hK K
    (try simp only [Act.put, List.setIfInBounds_toArray, List.set_cons_zero, List.set_cons_succ])
    refine L3.late_step 7 (by kernel_rfl) rfl (fun K hK => ?_)
    go_simp
    refine (siLen h59 j2 rfl_m.out).mono ?_
    rintro e w60 ⟨rfl, b60⟩
    have B := B.trans (b60.mono B.size)
    replace h57 := h57.below b60
    replace h59 := h59.below b60
    clear hHeld
    have hHeld := KEEP _ B
    go_wp2_with fail
    refine hK.out _ _ (L3.AllL.kept hHeld) ?_
    clear hK K
    (try simp only [Act.put, List.setIfInBounds_toArray, List.set_cons_zero, List.set_cons_succ])
    refine L3.late_free 8 (v := .int .i64 (j5 : Int)) rfl (by kernel_rfl) (by kernel_rfl) (by kernel_rfl) (by kernel_rfl) (by kernel_rfl) (by kernel_rfl) (fun _ _ _ h => h) (Or.inl ⟨by rfl, ?_⟩) hHeld ?_
    · (intro u _; go_simp)
    (try simp only [Act.put, List.setIfInBounds_toArray, List.set_cons_zero, List.set_cons_succ])
    refine L3.late_step 10 (by kernel_rfl) rfl (fun K hK => ?_)
    go_simp
    refine (siLen (hx.below B) j3 rfl_x.out).mono ?_
    rintro e w61 ⟨rfl, b61⟩
    have B := B.trans (b61.mono B.size)
    replace h57 := h57.below b61
    replace h59 := h59.below b61
    clear hHeld
    have hHeld := KEEP _ B
    go_wp2_with fail
    refine hK.out _ _ (L3.AllL.kept hHeld) ?_
    clear hK K
    (try simp only [Act.put, List.setIfInBounds_toArray, List.set_cons_zero, List.set_cons_succ])
    refine L3.late_step 12 (by kernel_rfl) rfl (fun K hK => ?_)
    go_simp
    refine (siLen (hy.below B) j4 rfl_y.out).mono ?_
    rintro e w62 ⟨rfl, b62⟩
    have B := B.trans (b62.mono B.size)
    replace h57 := h57.below b62
    replace h59 := h59.below b62
    clear hHeld
    have hHeld := KEEP _ B
    go_wp2_with fail
    refine hK.out _ _ (L3.AllL.kept hHeld) ?_
    clear hK K
    (try simp only [Act.put, List.setIfInBounds_toArray, List.set_cons_zero, List.set_cons_succ])
    refine L3.late_free 13 (v := .int .i64 (j5 : Int)) rfl (by kernel_rfl) (by kernel_rfl) (by kernel_rfl) (by kernel_rfl) (by kernel_rfl) (by kernel_rfl) (fun _ _ _ h => h) (Or.inl ⟨by rfl, ?_⟩) hHeld ?_
    · (intro u _; go_simp)
    (try simp only [Act.put, List.setIfInBounds_toArray, List.set_cons_zero, List.set_cons_succ])
    refine L3.late_free 14 (v := .bool true) rfl (by kernel_rfl) (by kernel_rfl) (by kernel_rfl) (by kernel_rfl) (by kernel_rfl) (by kernel_rfl) (fun _ _ _ h => h) (Or.inl ⟨by rfl, ?_⟩) hHeld ?_
    · (intro u _; go_simp)
    (try simp only [Act.put, List.setIfInBounds_toArray, List.set_cons_zero, List.set_cons_succ])
    refine L3.late_step 15 (by kernel_rfl) rfl (fun K hK => ?_)
    go_simp
    refine hK.out _ _ (L3.AllL.kept hHeld) ?_
    clear hK K
    (try simp only [Act.put, List.setIfInBounds_toArray, List.set_cons_zero, List.set_cons_succ])
    refine L3.late_done (by kernel_rfl) ?_ _
    clear hHeld KEEP
    replace bw := bw.trans (B.mono (by have := bw.size; have := HG.out; omega))
    replace sx := sx.below B
    replace hx := hx.below B
    replace sy := sy.below B
    replace hy := hy.below B
    replace sz := sz.below B
    replace hz := hz.below B
    replace sn := sn.below B
    replace hn_ := hn_.below B
    clear h57 h59
    clear B
    go_wp2
    go_ret
    exact ⟨rfl, bw⟩
end Go.Proofs.Ytphmamdmkhaemaa
