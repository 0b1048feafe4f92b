/-
  Proved here: SetEmpty's own walk.
-/
import Derived.Test.YtphmamdmkhaemaaSetSI
namespace Go.Proofs.Ytphmamdmkhaemaa
open Go.Shelf Go.RowKit Go.Lib Go.Sort
theorem sLen0 (w : World) : Calls Try.prog 17 #[.agg #[.slice none 0 0]] w fun e w' => e = .returned (.int .i64 0) ∧ Below w.heap.size w w' := by
  go_enter Try.func17, Try.ntmps17
  go_wp2
  go_ret
  exact ⟨rfl, (Below.refl _ _).alloc (Nat.le_refl _) _⟩
set_option maxRecDepth 100000 in
set_option maxHeartbeats 1000000 in
theorem sWithin0 (w : World) : Calls Try.prog 18 #[.agg #[.slice none 0 0], .agg #[.slice none 0 0]] w fun e w' => e = .returned (.bool true) ∧ Below w.heap.size w w' := by
  have HB : Hid (Below w.heap.size w ((w.alloc (.cells #[.slice none 0 0] 27)).alloc (.cells #[.slice none 0 0] 27))) := ((Below.refl _ _).alloc (Nat.le_refl _) _).alloc (by simp) _
  go_enter Try.func18, Try.ntmps18
  go_wp2
  go_loopg [6, 10] 0 (fun _g1 _v6 v10 wr => v10 = .int .i64 0 ∧ Hid (Below w.heap.size w wr))
  case atStart => exact ⟨rfl, HB⟩
  case round =>
    obtain ⟨rfl, HW⟩ := hrel
    go_wp2
    go_ret
    exact ⟨rfl, HW.out⟩
set_option maxHeartbeats 16000000 in
set_option maxRecDepth 1000000 in
theorem setEmpty_top (w : World) : Calls Try.prog 3 #[] w fun e w' => e = .returned (.bool true) ∧ Below w.heap.size w w' := by
  obtain ⟨W0, hW0⟩ : ∃ W0, W0 = (w.alloc (.cells #[.slice none 0 0] 24)).alloc (.cells #[.slice none 0 0] 27) := ⟨_, rfl⟩
  obtain ⟨sa, hsa⟩ : ∃ g, g = w.heap.size := ⟨_, rfl⟩
  obtain ⟨sb, hsb⟩ : ∃ g, g = w.heap.size + 1 := ⟨_, rfl⟩
  have s1 : SCell 24 W0 sa (.slice none 0 0) := by rw [hW0, hsa]; exact (SCell.new w rfl).step _
  have s2 : SCell 27 W0 sb (.slice none 0 0) := by rw [hW0, hsb]; exact SCell.new _ (by simp)
  have HB0 : Hid (Below w.heap.size w W0) := by rw [hW0]; exact ((Below.refl _ _).alloc (Nat.le_refl _) _).alloc (by simp) _
  have HW0 : Hid (W0 = (w.alloc (.cells #[.slice none 0 0] 24)).alloc (.cells #[.slice none 0 0] 27)) := hW0
  have HSA : Hid (sa = w.heap.size) := hsa
  have HSB : Hid (sb = w.heap.size + 1) := hsb
  clear hW0 hsa hsb
  go_enter Try.func3, Try.ntmps3
  go_upto_region 3 with fail
  rw [← HW0.out, ← HSB.out, ← HSA.out]
  clear HW0 HSA HSB
  have KEEP : ∀ u, Below W0.heap.size W0 u → L3.AllL u [(2, fun w' => w'.cell? ⟨sa, 0, none⟩ = some (.slice none 0 0)), (7, fun w' => w'.cell? ⟨sa, 0, none⟩ = some (.slice none 0 0)), (13, fun w' => w'.cell? ⟨sa, 0, none⟩ = some (.slice none 0 0)), (18, fun w' => w'.cell? ⟨sa, 0, none⟩ = some (.slice none 0 0)), (25, fun w' => w'.cell? ⟨sa, 0, none⟩ = some (.slice none 0 0)), (30, fun w' => w'.cell? ⟨sb, 0, none⟩ = some (.slice none 0 0)), (35, fun w' => w'.cell? ⟨sb, 0, none⟩ = some (.slice none 0 0)), (36, fun w' => w'.cell? ⟨sb, 0, none⟩ = some (.slice none 0 0))] := fun u hu => ⟨(s1.below hu).cell, (s1.below hu).cell, (s1.below hu).cell, (s1.below hu).cell, (s1.below hu).cell, (s2.below hu).cell, (s2.below hu).cell, (s2.below hu).cell, trivial⟩
  refine L3.region_late [(2, fun w' => w'.cell? ⟨sa, 0, none⟩ = some (.slice none 0 0)), (7, fun w' => w'.cell? ⟨sa, 0, none⟩ = some (.slice none 0 0)), (13, fun w' => w'.cell? ⟨sa, 0, none⟩ = some (.slice none 0 0)), (18, fun w' => w'.cell? ⟨sa, 0, none⟩ = some (.slice none 0 0)), (25, fun w' => w'.cell? ⟨sa, 0, none⟩ = some (.slice none 0 0)), (30, fun w' => w'.cell? ⟨sb, 0, none⟩ = some (.slice none 0 0)), (35, fun w' => w'.cell? ⟨sb, 0, none⟩ = some (.slice none 0 0)), (36, fun w' => w'.cell? ⟨sb, 0, none⟩ = some (.slice none 0 0))] (by kernel_rfl) ?_
  have B : Below W0.heap.size W0 W0.drew := (Below.refl _ _).drew
  obtain ⟨wd, hwd⟩ : ∃ u, u = W0.drew := ⟨_, rfl⟩
  rw [← hwd] at B ⊢
  clear hwd
  have hHeld := KEEP _ B
  refine L3.late_step 0 (by kernel_rfl) rfl (fun K hK => ?_)
  go_simp
  refine (alive_any _).mono ?_
  rintro e w0 ⟨rfl, b0⟩
  have B := B.trans (b0.mono B.size)
  clear hHeld
  have hHeld := KEEP _ B
  go_wp2_with fail
  refine hK.out _ _ (L3.AllL.kept hHeld) ?_
  clear hK K
  (try simp only [Act.put, List.setIfInBounds_toArray, List.set_cons_zero, List.set_cons_succ])
  refine L3.late_free 1 (v := .bool true) rfl (by kernel_rfl) (by kernel_rfl) (by kernel_rfl) (by kernel_rfl) (by kernel_rfl) (by kernel_rfl) (fun _ _ _ h => h) (Or.inl ⟨by rfl, ?_⟩) hHeld ?_
  · (intro u _; go_simp)
  (try simp only [Act.put, List.setIfInBounds_toArray, List.set_cons_zero, List.set_cons_succ])
  refine L3.late_take 2 (v := .agg #[.slice none 0 0]) rfl (by kernel_rfl) (List.Mem.head _) (by kernel_rfl) (by kernel_rfl) (by kernel_rfl) (by kernel_rfl) (fun _ _ _ h => h) (Or.inl ⟨by rfl, ?_⟩) hHeld ?_
  · (intro u hu; (try dsimp only at hu); go_split_ands; go_simp)
  (try simp only [Act.put, List.setIfInBounds_toArray, List.set_cons_zero, List.set_cons_succ])
  refine L3.late_step 3 (by kernel_rfl) rfl (fun K hK => ?_)
  go_simp
  refine (siLen (SI.none _ 0) 0 rfl).mono ?_
  rintro e w3 ⟨rfl, b3⟩
  have B := B.trans (b3.mono B.size)
  clear hHeld
  have hHeld := KEEP _ B
  go_wp2_with fail
  refine hK.out _ _ (L3.AllL.kept hHeld) ?_
  clear hK K
  (try simp only [Act.put, List.setIfInBounds_toArray, List.set_cons_zero, List.set_cons_succ])
  refine L3.late_free 4 (v := .bool true) rfl (by kernel_rfl) (by kernel_rfl) (by kernel_rfl) (by kernel_rfl) (by kernel_rfl) (by kernel_rfl) (fun _ _ _ h => h) (Or.inl ⟨by rfl, ?_⟩) hHeld ?_
  · (intro u _; go_simp)
  (try simp only [Act.put, List.setIfInBounds_toArray, List.set_cons_zero, List.set_cons_succ])
  refine L3.late_free 5 (v := .bool true) rfl (by kernel_rfl) (by kernel_rfl) (by kernel_rfl) (by kernel_rfl) (by kernel_rfl) (by kernel_rfl) (fun _ _ _ h => h) (Or.inl ⟨by rfl, ?_⟩) hHeld ?_
  · (intro u _; go_simp)
  (try simp only [Act.put, List.setIfInBounds_toArray, List.set_cons_zero, List.set_cons_succ])
  refine L3.late_free 6 (v := .bool true) rfl (by kernel_rfl) (by kernel_rfl) (by kernel_rfl) (by kernel_rfl) (by kernel_rfl) (by kernel_rfl) (fun _ _ _ h => h) (Or.inl ⟨by rfl, ?_⟩) hHeld ?_
  · (intro u _; go_simp)
  (try simp only [Act.put, List.setIfInBounds_toArray, List.set_cons_zero, List.set_cons_succ])
  refine L3.late_take 7 (v := .agg #[.slice none 0 0]) rfl (by kernel_rfl) (List.Mem.tail _ (List.Mem.head _)) (by kernel_rfl) (by kernel_rfl) (by kernel_rfl) (by kernel_rfl) (fun _ _ _ h => h) (Or.inl ⟨by rfl, ?_⟩) hHeld ?_
  · (intro u hu; (try dsimp only at hu); go_split_ands; go_simp)
  (try simp only [Act.put, List.setIfInBounds_toArray, List.set_cons_zero, List.set_cons_succ])
  refine L3.late_step 8 (by kernel_rfl) rfl (fun K hK => ?_)
  go_simp
  refine (setListI _ _ _ (RG.nil _) (by simp)).mono ?_
  rintro e w8 ⟨u8, rfl, ho8, b8⟩
  obtain ⟨u8o, u8c, rfl, -⟩ := ho8.sl
  clear ho8
  simp only [List.length_nil]
  have B := B.trans (b8.mono B.size)
  clear hHeld
  have hHeld := KEEP _ B
  go_wp2_with fail
  refine hK.out _ _ (L3.AllL.kept hHeld) ?_
  clear hK K
  (try simp only [Act.put, List.setIfInBounds_toArray, List.set_cons_zero, List.set_cons_succ])
  refine L3.late_free 9 (v := .int .i64 0) rfl (by kernel_rfl) (by kernel_rfl) (by kernel_rfl) (by kernel_rfl) (by kernel_rfl) (by kernel_rfl) (fun _ _ _ h => h) (Or.inl ⟨by rfl, ?_⟩) hHeld ?_
  · (intro u _; go_simp)
  (try simp only [Act.put, List.setIfInBounds_toArray, List.set_cons_zero, List.set_cons_succ])
  refine L3.late_free 10 (v := .bool true) rfl (by kernel_rfl) (by kernel_rfl) (by kernel_rfl) (by kernel_rfl) (by kernel_rfl) (by kernel_rfl) (fun _ _ _ h => h) (Or.inl ⟨by rfl, ?_⟩) hHeld ?_
  · (intro u _; go_simp)
  (try simp only [Act.put, List.setIfInBounds_toArray, List.set_cons_zero, List.set_cons_succ])
  refine L3.late_free 11 (v := .bool true) rfl (by kernel_rfl) (by kernel_rfl) (by kernel_rfl) (by kernel_rfl) (by kernel_rfl) (by kernel_rfl) (fun _ _ _ h => h) (Or.inl ⟨by rfl, ?_⟩) hHeld ?_
  · (intro u _; go_simp)
  (try simp only [Act.put, List.setIfInBounds_toArray, List.set_cons_zero, List.set_cons_succ])
  refine L3.late_free 12 (v := .bool true) rfl (by kernel_rfl) (by kernel_rfl) (by kernel_rfl) (by kernel_rfl) (by kernel_rfl) (by kernel_rfl) (fun _ _ _ h => h) (Or.inl ⟨by rfl, ?_⟩) hHeld ?_
  · (intro u _; go_simp)
  (try simp only [Act.put, List.setIfInBounds_toArray, List.set_cons_zero, List.set_cons_succ])
  refine L3.late_take 13 (v := .agg #[.slice none 0 0]) rfl (by kernel_rfl) (List.Mem.tail _ (List.Mem.tail _ (List.Mem.head _))) (by kernel_rfl) (by kernel_rfl) (by kernel_rfl) (by kernel_rfl) (fun _ _ _ h => h) (Or.inl ⟨by rfl, ?_⟩) hHeld ?_
  · (intro u hu; (try dsimp only at hu); go_split_ands; go_simp)
  (try simp only [Act.put, List.setIfInBounds_toArray, List.set_cons_zero, List.set_cons_succ])
  refine L3.late_step 14 (by kernel_rfl) rfl (fun K hK => ?_)
  go_simp
  refine (setHasI _ [] 0 _ (RG.nil _) List.Pairwise.nil (by simp)).mono ?_
  rintro e w14 ⟨rfl, b14⟩
  rw [show hasI [] 0 = false from rfl]
  have B := B.trans (b14.mono B.size)
  clear hHeld
  have hHeld := KEEP _ B
  go_wp2_with fail
  refine hK.out _ _ (L3.AllL.kept hHeld) ?_
  clear hK K
  (try simp only [Act.put, List.setIfInBounds_toArray, List.set_cons_zero, List.set_cons_succ])
  refine L3.late_free 15 (v := .bool true) rfl (by kernel_rfl) (by kernel_rfl) (by kernel_rfl) (by kernel_rfl) (by kernel_rfl) (by kernel_rfl) (fun _ _ _ h => h) (Or.inl ⟨by rfl, ?_⟩) hHeld ?_
  · (intro u _; go_simp)
  (try simp only [Act.put, List.setIfInBounds_toArray, List.set_cons_zero, List.set_cons_succ])
  refine L3.late_free 16 (v := .bool true) rfl (by kernel_rfl) (by kernel_rfl) (by kernel_rfl) (by kernel_rfl) (by kernel_rfl) (by kernel_rfl) (fun _ _ _ h => h) (Or.inl ⟨by rfl, ?_⟩) hHeld ?_
  · (intro u _; go_simp)
  (try simp only [Act.put, List.setIfInBounds_toArray, List.set_cons_zero, List.set_cons_succ])
  refine L3.late_free 17 (v := .bool true) rfl (by kernel_rfl) (by kernel_rfl) (by kernel_rfl) (by kernel_rfl) (by kernel_rfl) (by kernel_rfl) (fun _ _ _ h => h) (Or.inl ⟨by rfl, ?_⟩) hHeld ?_
  · (intro u _; go_simp)
  (try simp only [Act.put, List.setIfInBounds_toArray, List.set_cons_zero, List.set_cons_succ])
  refine L3.late_take 18 (v := .agg #[.slice none 0 0]) rfl (by kernel_rfl) (List.Mem.tail _ (List.Mem.tail _ (List.Mem.tail _ (List.Mem.head _)))) (by kernel_rfl) (by kernel_rfl) (by kernel_rfl) (by kernel_rfl) (fun _ _ _ h => h) (Or.inl ⟨by rfl, ?_⟩) hHeld ?_
  · (intro u hu; (try dsimp only at hu); go_split_ands; go_simp)
  (try simp only [Act.put, List.setIfInBounds_toArray, List.set_cons_zero, List.set_cons_succ])
  refine L3.late_two 19 21 (by kernel_rfl) rfl rfl (fun K hK => ?_) (fun K hK => ?_)
  · go_simp
    refine (setWithI _ [] 3 _ (RG.nil _) List.Pairwise.nil (by simp)).mono ?_
    rintro e w19 ⟨u19, k19, rfl, hP19, r19, b19⟩
    have hk19 : k19 = 0 := by have := hP19.le; simpa using this
    subst hk19
    replace r19 : RG (Value.int .i64) w19 u19 [3] := r19
    clear hP19
    obtain ⟨uo19, uc19, hu19⟩ := r19.sl
    subst hu19
    simp only [List.length_cons, List.length_nil, Nat.zero_add] at r19 ⊢
    have B := B.trans (b19.mono B.size)
    clear hHeld
    have hHeld := KEEP _ B
    go_wp2_with fail
    refine hK.out _ _ (L3.AllL.kept hHeld) ?_
    clear hK K
    (try simp only [Act.put, List.setIfInBounds_toArray, List.set_cons_zero, List.set_cons_succ])
    refine L3.late_two 20 21 (by kernel_rfl) rfl rfl (fun K hK => ?_) (fun K hK => ?_)
    · go_simp
      refine (setListI _ _ _ r19 (by simp)).mono ?_
      rintro e w20 ⟨u20, rfl, ho20, b20⟩
      have r20 := ho20.rg
      obtain ⟨uo20, uc20, hu20, -⟩ := ho20.sl
      subst hu20
      clear ho20
      simp only [List.length_cons, List.length_nil, Nat.zero_add] at r20 ⊢
      have B := B.trans (b20.mono B.size)
      replace r19 := r19.below (Nat.le_refl _) b20
      clear hHeld
      have hHeld := KEEP _ B
      go_wp2_with fail
      refine hK.out _ _ (L3.AllL.kept hHeld) ?_
      clear hK K
      (try simp only [Act.put, List.setIfInBounds_toArray, List.set_cons_zero, List.set_cons_succ])
      refine L3.late_step 21 (by kernel_rfl) rfl (fun K hK => ?_)
      go_simp
      obtain ⟨wl, hwl⟩ : ∃ u, u = w20.alloc (.cells #[.int .i64 3] 3) := ⟨_, rfl⟩
      have r21 : RG (Value.int .i64) wl (.slice (some ⟨w20.heap.size, 0, none⟩) 1 1) [3] := by rw [hwl]; exact rg_lit w20 [3] (by simp)
      have b21 : Below w20.heap.size w20 wl := by rw [hwl]; exact (Below.refl _ _).alloc (Nat.le_refl _) _
      rw [← hwl]
      obtain ⟨gl, hgl⟩ : ∃ g, g = w20.heap.size := ⟨_, rfl⟩
      rw [← hgl] at r21 ⊢
      clear hwl hgl
      have B := B.trans (b21.mono B.size)
      replace r19 := r19.below (Nat.le_refl _) b21
      replace r20 := r20.below (Nat.le_refl _) b21
      clear hHeld
      have hHeld := KEEP _ B
      refine hK.out _ _ (L3.AllL.kept hHeld) ?_
      clear hK K
      (try simp only [Act.put, List.setIfInBounds_toArray, List.set_cons_zero, List.set_cons_succ])
      refine L3.late_step 22 (by kernel_rfl) rfl (fun K hK => ?_)
      go_simp
      refine (ints_below _ _ _ _ _ r20 r21).mono ?_
      rintro e w22 ⟨rfl, b22⟩
      rw [decide_eq_true (rfl : ([3] : List Int) = [3])]
      have B := B.trans (b22.mono B.size)
      replace r19 := r19.below (Nat.le_refl _) b22
      replace r20 := r20.below (Nat.le_refl _) b22
      replace r21 := r21.below (Nat.le_refl _) b22
      clear hHeld
      have hHeld := KEEP _ B
      go_wp2_with fail
      refine hK.out _ _ (L3.AllL.kept hHeld) ?_
      clear hK K
      (try simp only [Act.put, List.setIfInBounds_toArray, List.set_cons_zero, List.set_cons_succ])
      refine L3.late_free 23 (v := .bool true) rfl (by kernel_rfl) (by kernel_rfl) (by kernel_rfl) (by kernel_rfl) (by kernel_rfl) (by kernel_rfl) (fun _ _ _ h => h) (Or.inl ⟨by rfl, ?_⟩) hHeld ?_
      · (intro u _; go_simp)
      (try simp only [Act.put, List.setIfInBounds_toArray, List.set_cons_zero, List.set_cons_succ])
      refine L3.late_free 24 (v := .bool true) rfl (by kernel_rfl) (by kernel_rfl) (by kernel_rfl) (by kernel_rfl) (by kernel_rfl) (by kernel_rfl) (fun _ _ _ h => h) (Or.inl ⟨by rfl, ?_⟩) hHeld ?_
      · (intro u _; go_simp)
      (try simp only [Act.put, List.setIfInBounds_toArray, List.set_cons_zero, List.set_cons_succ])
      refine L3.late_take 25 (v := .agg #[.slice none 0 0]) rfl (by kernel_rfl) (List.Mem.tail _ (List.Mem.tail _ (List.Mem.tail _ (List.Mem.tail _ (List.Mem.head _))))) (by kernel_rfl) (by kernel_rfl) (by kernel_rfl) (by kernel_rfl) (fun _ _ _ h => h) (Or.inl ⟨by rfl, ?_⟩) hHeld ?_
      · (intro u hu; (try dsimp only at hu); go_split_ands; go_simp)
      (try simp only [Act.put, List.setIfInBounds_toArray, List.set_cons_zero, List.set_cons_succ])
      refine L3.late_step 26 (by kernel_rfl) rfl (fun K hK => ?_)
      go_simp
      refine (setOfI _ [] _ (RG.nil _) (by simp)).mono ?_
      rintro e w26 ⟨u26, rfl, ho26, b26⟩
      have r26 : RG (Value.int .i64) w26 u26 [] := ho26.rg
      obtain ⟨uo26, uc26, hu26, -⟩ := ho26.sl
      subst hu26
      clear ho26
      have B := B.trans (b26.mono B.size)
      replace r19 := r19.below (Nat.le_refl _) b26
      replace r20 := r20.below (Nat.le_refl _) b26
      replace r21 := r21.below (Nat.le_refl _) b26
      clear hHeld
      have hHeld := KEEP _ B
      go_wp2_with fail
      refine hK.out _ _ (L3.AllL.kept hHeld) ?_
      clear hK K
      (try simp only [Act.put, List.setIfInBounds_toArray, List.set_cons_zero, List.set_cons_succ])
      refine L3.late_step 27 (by kernel_rfl) rfl (fun K hK => ?_)
      go_simp
      refine (setSameI _ _ [] [] _ (RG.nil _) r26).mono ?_
      rintro e w27 ⟨rfl, b27⟩
      rw [show allS smI [] [] = true from rfl]
      have B := B.trans (b27.mono B.size)
      replace r19 := r19.below (Nat.le_refl _) b27
      replace r20 := r20.below (Nat.le_refl _) b27
      replace r21 := r21.below (Nat.le_refl _) b27
      replace r26 := r26.below (Nat.le_refl _) b27
      clear hHeld
      have hHeld := KEEP _ B
      go_wp2_with fail
      refine hK.out _ _ (L3.AllL.kept hHeld) ?_
      clear hK K
      (try simp only [Act.put, List.setIfInBounds_toArray, List.set_cons_zero, List.set_cons_succ])
      refine L3.late_free 28 (v := .bool true) rfl (by kernel_rfl) (by kernel_rfl) (by kernel_rfl) (by kernel_rfl) (by kernel_rfl) (by kernel_rfl) (fun _ _ _ h => h) (Or.inl ⟨by rfl, ?_⟩) hHeld ?_
      · (intro u _; go_simp)
      (try simp only [Act.put, List.setIfInBounds_toArray, List.set_cons_zero, List.set_cons_succ])
      refine L3.late_free 29 (v := .bool true) rfl (by kernel_rfl) (by kernel_rfl) (by kernel_rfl) (by kernel_rfl) (by kernel_rfl) (by kernel_rfl) (fun _ _ _ h => h) (Or.inl ⟨by rfl, ?_⟩) hHeld ?_
      · (intro u _; go_simp)
      (try simp only [Act.put, List.setIfInBounds_toArray, List.set_cons_zero, List.set_cons_succ])
      refine L3.late_take 30 (v := .agg #[.slice none 0 0]) rfl (by kernel_rfl) (List.Mem.tail _ (List.Mem.tail _ (List.Mem.tail _ (List.Mem.tail _ (List.Mem.tail _ (List.Mem.head _)))))) (by kernel_rfl) (by kernel_rfl) (by kernel_rfl) (by kernel_rfl) (fun _ _ _ h => h) (Or.inl ⟨by rfl, ?_⟩) hHeld ?_
      · (intro u hu; (try dsimp only at hu); go_split_ands; go_simp)
      (try simp only [Act.put, List.setIfInBounds_toArray, List.set_cons_zero, List.set_cons_succ])
      refine L3.late_step 31 (by kernel_rfl) rfl (fun K hK => ?_)
      go_simp
      refine (sLen0 _).mono ?_
      rintro e w31 ⟨rfl, b31⟩
      have B := B.trans (b31.mono B.size)
      replace r19 := r19.below (Nat.le_refl _) b31
      replace r20 := r20.below (Nat.le_refl _) b31
      replace r21 := r21.below (Nat.le_refl _) b31
      replace r26 := r26.below (Nat.le_refl _) b31
      clear hHeld
      have hHeld := KEEP _ B
      go_wp2_with fail
      refine hK.out _ _ (L3.AllL.kept hHeld) ?_
      clear hK K
      (try simp only [Act.put, List.setIfInBounds_toArray, List.set_cons_zero, List.set_cons_succ])
      refine L3.late_free 32 (v := .bool true) rfl (by kernel_rfl) (by kernel_rfl) (by kernel_rfl) (by kernel_rfl) (by kernel_rfl) (by kernel_rfl) (fun _ _ _ h => h) (Or.inl ⟨by rfl, ?_⟩) hHeld ?_
      · (intro u _; go_simp)
      (try simp only [Act.put, List.setIfInBounds_toArray, List.set_cons_zero, List.set_cons_succ])
      refine L3.late_free 33 (v := .bool true) rfl (by kernel_rfl) (by kernel_rfl) (by kernel_rfl) (by kernel_rfl) (by kernel_rfl) (by kernel_rfl) (fun _ _ _ h => h) (Or.inl ⟨by rfl, ?_⟩) hHeld ?_
      · (intro u _; go_simp)
      (try simp only [Act.put, List.setIfInBounds_toArray, List.set_cons_zero, List.set_cons_succ])
      refine L3.late_free 34 (v := .bool true) rfl (by kernel_rfl) (by kernel_rfl) (by kernel_rfl) (by kernel_rfl) (by kernel_rfl) (by kernel_rfl) (fun _ _ _ h => h) (Or.inl ⟨by rfl, ?_⟩) hHeld ?_
      · (intro u _; go_simp)
      (try simp only [Act.put, List.setIfInBounds_toArray, List.set_cons_zero, List.set_cons_succ])
      refine L3.late_take 35 (v := .agg #[.slice none 0 0]) rfl (by kernel_rfl) (List.Mem.tail _ (List.Mem.tail _ (List.Mem.tail _ (List.Mem.tail _ (List.Mem.tail _ (List.Mem.tail _ (List.Mem.head _))))))) (by kernel_rfl) (by kernel_rfl) (by kernel_rfl) (by kernel_rfl) (fun _ _ _ h => h) (Or.inl ⟨by rfl, ?_⟩) hHeld ?_
      · (intro u hu; (try dsimp only at hu); go_split_ands; go_simp)
      (try simp only [Act.put, List.setIfInBounds_toArray, List.set_cons_zero, List.set_cons_succ])
      refine L3.late_take 36 (v := .agg #[.slice none 0 0]) rfl (by kernel_rfl) (List.Mem.tail _ (List.Mem.tail _ (List.Mem.tail _ (List.Mem.tail _ (List.Mem.tail _ (List.Mem.tail _ (List.Mem.tail _ (List.Mem.head _)))))))) (by kernel_rfl) (by kernel_rfl) (by kernel_rfl) (by kernel_rfl) (fun _ _ _ h => h) (Or.inl ⟨by rfl, ?_⟩) hHeld ?_
      · (intro u hu; (try dsimp only at hu); go_split_ands; go_simp)
      (try simp only [Act.put, List.setIfInBounds_toArray, List.set_cons_zero, List.set_cons_succ])
      refine L3.late_step 37 (by kernel_rfl) rfl (fun K hK => ?_)
      go_simp
      refine (sWithin0 _).mono ?_
      rintro e w37 ⟨rfl, b37⟩
      have B := B.trans (b37.mono B.size)
      replace r19 := r19.below (Nat.le_refl _) b37
      replace r20 := r20.below (Nat.le_refl _) b37
      replace r21 := r21.below (Nat.le_refl _) b37
      replace r26 := r26.below (Nat.le_refl _) b37
      clear hHeld
      have hHeld := KEEP _ B
      go_wp2_with fail
      refine hK.out _ _ (L3.AllL.kept hHeld) ?_
      clear hK K
      (try simp only [Act.put, List.setIfInBounds_toArray, List.set_cons_zero, List.set_cons_succ])
      refine L3.late_free 38 (v := .bool true) rfl (by kernel_rfl) (by kernel_rfl) (by kernel_rfl) (by kernel_rfl) (by kernel_rfl) (by kernel_rfl) (fun _ _ _ h => h) (Or.inl ⟨by rfl, ?_⟩) hHeld ?_
      · (intro u _; go_simp)
      (try simp only [Act.put, List.setIfInBounds_toArray, List.set_cons_zero, List.set_cons_succ])
      refine L3.late_step 39 (by kernel_rfl) rfl (fun K hK => ?_)
      go_simp
      refine hK.out _ _ (L3.AllL.kept hHeld) ?_
      clear hK K
      (try simp only [Act.put, List.setIfInBounds_toArray, List.set_cons_zero, List.set_cons_succ])
      refine L3.late_done (by kernel_rfl) ?_ _
      have HE : Hid (Below w.heap.size w _) := HB0.out.trans (B.mono HB0.out.size)
      clear hHeld KEEP B r19 r20 r21 r26
      go_wp2_with fail
      go_ret
      exact ⟨by first | rfl | simp, HE.out⟩
    · go_simp
      obtain ⟨wl, hwl⟩ : ∃ u, u = w19.alloc (.cells #[.int .i64 3] 3) := ⟨_, rfl⟩
      have r21 : RG (Value.int .i64) wl (.slice (some ⟨w19.heap.size, 0, none⟩) 1 1) [3] := by rw [hwl]; exact rg_lit w19 [3] (by simp)
      have b21 : Below w19.heap.size w19 wl := by rw [hwl]; exact (Below.refl _ _).alloc (Nat.le_refl _) _
      rw [← hwl]
      obtain ⟨gl, hgl⟩ : ∃ g, g = w19.heap.size := ⟨_, rfl⟩
      rw [← hgl] at r21 ⊢
      clear hwl hgl
      have B := B.trans (b21.mono B.size)
      replace r19 := r19.below (Nat.le_refl _) b21
      clear hHeld
      have hHeld := KEEP _ B
      refine hK.out _ _ (L3.AllL.kept hHeld) ?_
      clear hK K
      (try simp only [Act.put, List.setIfInBounds_toArray, List.set_cons_zero, List.set_cons_succ])
      refine L3.late_step 20 (by kernel_rfl) rfl (fun K hK => ?_)
      go_simp
      refine (setListI _ _ _ r19 (by simp)).mono ?_
      rintro e w20 ⟨u20, rfl, ho20, b20⟩
      have r20 := ho20.rg
      obtain ⟨uo20, uc20, hu20, -⟩ := ho20.sl
      subst hu20
      clear ho20
      simp only [List.length_cons, List.length_nil, Nat.zero_add] at r20 ⊢
      have B := B.trans (b20.mono B.size)
      replace r19 := r19.below (Nat.le_refl _) b20
      replace r21 := r21.below (Nat.le_refl _) b20
      clear hHeld
      have hHeld := KEEP _ B
      go_wp2_with fail
      refine hK.out _ _ (L3.AllL.kept hHeld) ?_
      clear hK K
      (try simp only [Act.put, List.setIfInBounds_toArray, List.set_cons_zero, List.set_cons_succ])
      refine L3.late_step 22 (by kernel_rfl) rfl (fun K hK => ?_)
      go_simp
      refine (ints_below _ _ _ _ _ r20 r21).mono ?_
      rintro e w22 ⟨rfl, b22⟩
      rw [decide_eq_true (rfl : ([3] : List Int) = [3])]
      have B := B.trans (b22.mono B.size)
      replace r19 := r19.below (Nat.le_refl _) b22
      replace r21 := r21.below (Nat.le_refl _) b22
      replace r20 := r20.below (Nat.le_refl _) b22
      clear hHeld
      have hHeld := KEEP _ B
      go_wp2_with fail
      refine hK.out _ _ (L3.AllL.kept hHeld) ?_
      clear hK K
      (try simp only [Act.put, List.setIfInBounds_toArray, List.set_cons_zero, List.set_cons_succ])
      refine L3.late_free 23 (v := .bool true) rfl (by kernel_rfl) (by kernel_rfl) (by kernel_rfl) (by kernel_rfl) (by kernel_rfl) (by kernel_rfl) (fun _ _ _ h => h) (Or.inl ⟨by rfl, ?_⟩) hHeld ?_
      · (intro u _; go_simp)
      (try simp only [Act.put, List.setIfInBounds_toArray, List.set_cons_zero, List.set_cons_succ])
      refine L3.late_free 24 (v := .bool true) rfl (by kernel_rfl) (by kernel_rfl) (by kernel_rfl) (by kernel_rfl) (by kernel_rfl) (by kernel_rfl) (fun _ _ _ h => h) (Or.inl ⟨by rfl, ?_⟩) hHeld ?_
      · (intro u _; go_simp)
      (try simp only [Act.put, List.setIfInBounds_toArray, List.set_cons_zero, List.set_cons_succ])
      refine L3.late_take 25 (v := .agg #[.slice none 0 0]) rfl (by kernel_rfl) (List.Mem.tail _ (List.Mem.tail _ (List.Mem.tail _ (List.Mem.tail _ (List.Mem.head _))))) (by kernel_rfl) (by kernel_rfl) (by kernel_rfl) (by kernel_rfl) (fun _ _ _ h => h) (Or.inl ⟨by rfl, ?_⟩) hHeld ?_
      · (intro u hu; (try dsimp only at hu); go_split_ands; go_simp)
      (try simp only [Act.put, List.setIfInBounds_toArray, List.set_cons_zero, List.set_cons_succ])
      refine L3.late_step 26 (by kernel_rfl) rfl (fun K hK => ?_)
      go_simp
      refine (setOfI _ [] _ (RG.nil _) (by simp)).mono ?_
      rintro e w26 ⟨u26, rfl, ho26, b26⟩
      have r26 : RG (Value.int .i64) w26 u26 [] := ho26.rg
      obtain ⟨uo26, uc26, hu26, -⟩ := ho26.sl
      subst hu26
      clear ho26
      have B := B.trans (b26.mono B.size)
      replace r19 := r19.below (Nat.le_refl _) b26
      replace r21 := r21.below (Nat.le_refl _) b26
      replace r20 := r20.below (Nat.le_refl _) b26
      clear hHeld
      have hHeld := KEEP _ B
      go_wp2_with fail
      refine hK.out _ _ (L3.AllL.kept hHeld) ?_
      clear hK K
      (try simp only [Act.put, List.setIfInBounds_toArray, List.set_cons_zero, List.set_cons_succ])
      refine L3.late_step 27 (by kernel_rfl) rfl (fun K hK => ?_)
      go_simp
      refine (setSameI _ _ [] [] _ (RG.nil _) r26).mono ?_
      rintro e w27 ⟨rfl, b27⟩
      rw [show allS smI [] [] = true from rfl]
      have B := B.trans (b27.mono B.size)
      replace r19 := r19.below (Nat.le_refl _) b27
      replace r21 := r21.below (Nat.le_refl _) b27
      replace r20 := r20.below (Nat.le_refl _) b27
      replace r26 := r26.below (Nat.le_refl _) b27
      clear hHeld
      have hHeld := KEEP _ B
      go_wp2_with fail
      refine hK.out _ _ (L3.AllL.kept hHeld) ?_
      clear hK K
      (try simp only [Act.put, List.setIfInBounds_toArray, List.set_cons_zero, List.set_cons_succ])
      refine L3.late_free 28 (v := .bool true) rfl (by kernel_rfl) (by kernel_rfl) (by kernel_rfl) (by kernel_rfl) (by kernel_rfl) (by kernel_rfl) (fun _ _ _ h => h) (Or.inl ⟨by rfl, ?_⟩) hHeld ?_
      · (intro u _; go_simp)
      (try simp only [Act.put, List.setIfInBounds_toArray, List.set_cons_zero, List.set_cons_succ])
      refine L3.late_free 29 (v := .bool true) rfl (by kernel_rfl) (by kernel_rfl) (by kernel_rfl) (by kernel_rfl) (by kernel_rfl) (by kernel_rfl) (fun _ _ _ h => h) (Or.inl ⟨by rfl, ?_⟩) hHeld ?_
      · (intro u _; go_simp)
      (try simp only [Act.put, List.setIfInBounds_toArray, List.set_cons_zero, List.set_cons_succ])
      refine L3.late_take 30 (v := .agg #[.slice none 0 0]) rfl (by kernel_rfl) (List.Mem.tail _ (List.Mem.tail _ (List.Mem.tail _ (List.Mem.tail _ (List.Mem.tail _ (List.Mem.head _)))))) (by kernel_rfl) (by kernel_rfl) (by kernel_rfl) (by kernel_rfl) (fun _ _ _ h => h) (Or.inl ⟨by rfl, ?_⟩) hHeld ?_
      · (intro u hu; (try dsimp only at hu); go_split_ands; go_simp)
      (try simp only [Act.put, List.setIfInBounds_toArray, List.set_cons_zero, List.set_cons_succ])
      refine L3.late_step 31 (by kernel_rfl) rfl (fun K hK => ?_)
      go_simp
      refine (sLen0 _).mono ?_
      rintro e w31 ⟨rfl, b31⟩
      have B := B.trans (b31.mono B.size)
      replace r19 := r19.below (Nat.le_refl _) b31
      replace r21 := r21.below (Nat.le_refl _) b31
      replace r20 := r20.below (Nat.le_refl _) b31
      replace r26 := r26.below (Nat.le_refl _) b31
      clear hHeld
      have hHeld := KEEP _ B
      go_wp2_with fail
      refine hK.out _ _ (L3.AllL.kept hHeld) ?_
      clear hK K
      (try simp only [Act.put, List.setIfInBounds_toArray, List.set_cons_zero, List.set_cons_succ])
      refine L3.late_free 32 (v := .bool true) rfl (by kernel_rfl) (by kernel_rfl) (by kernel_rfl) (by kernel_rfl) (by kernel_rfl) (by kernel_rfl) (fun _ _ _ h => h) (Or.inl ⟨by rfl, ?_⟩) hHeld ?_
      · (intro u _; go_simp)
      (try simp only [Act.put, List.setIfInBounds_toArray, List.set_cons_zero, List.set_cons_succ])
      refine L3.late_free 33 (v := .bool true) rfl (by kernel_rfl) (by kernel_rfl) (by kernel_rfl) (by kernel_rfl) (by kernel_rfl) (by kernel_rfl) (fun _ _ _ h => h) (Or.inl ⟨by rfl, ?_⟩) hHeld ?_
      · (intro u _; go_simp)
      (try simp only [Act.put, List.setIfInBounds_toArray, List.set_cons_zero, List.set_cons_succ])
      refine L3.late_free 34 (v := .bool true) rfl (by kernel_rfl) (by kernel_rfl) (by kernel_rfl) (by kernel_rfl) (by kernel_rfl) (by kernel_rfl) (fun _ _ _ h => h) (Or.inl ⟨by rfl, ?_⟩) hHeld ?_
      · (intro u _; go_simp)
      (try simp only [Act.put, List.setIfInBounds_toArray, List.set_cons_zero, List.set_cons_succ])
      refine L3.late_take 35 (v := .agg #[.slice none 0 0]) rfl (by kernel_rfl) (List.Mem.tail _ (List.Mem.tail _ (List.Mem.tail _ (List.Mem.tail _ (List.Mem.tail _ (List.Mem.tail _ (List.Mem.head _))))))) (by kernel_rfl) (by kernel_rfl) (by kernel_rfl) (by kernel_rfl) (fun _ _ _ h => h) (Or.inl ⟨by rfl, ?_⟩) hHeld ?_
      · (intro u hu; (try dsimp only at hu); go_split_ands; go_simp)
      (try simp only [Act.put, List.setIfInBounds_toArray, List.set_cons_zero, List.set_cons_succ])
      refine L3.late_take 36 (v := .agg #[.slice none 0 0]) rfl (by kernel_rfl) (List.Mem.tail _ (List.Mem.tail _ (List.Mem.tail _ (List.Mem.tail _ (List.Mem.tail _ (List.Mem.tail _ (List.Mem.tail _ (List.Mem.head _)))))))) (by kernel_rfl) (by kernel_rfl) (by kernel_rfl) (by kernel_rfl) (fun _ _ _ h => h) (Or.inl ⟨by rfl, ?_⟩) hHeld ?_
      · (intro u hu; (try dsimp only at hu); go_split_ands; go_simp)
      (try simp only [Act.put, List.setIfInBounds_toArray, List.set_cons_zero, List.set_cons_succ])
      refine L3.late_step 37 (by kernel_rfl) rfl (fun K hK => ?_)
      go_simp
      refine (sWithin0 _).mono ?_
      rintro e w37 ⟨rfl, b37⟩
      have B := B.trans (b37.mono B.size)
      replace r19 := r19.below (Nat.le_refl _) b37
      replace r21 := r21.below (Nat.le_refl _) b37
      replace r20 := r20.below (Nat.le_refl _) b37
      replace r26 := r26.below (Nat.le_refl _) b37
      clear hHeld
      have hHeld := KEEP _ B
      go_wp2_with fail
      refine hK.out _ _ (L3.AllL.kept hHeld) ?_
      clear hK K
      (try simp only [Act.put, List.setIfInBounds_toArray, List.set_cons_zero, List.set_cons_succ])
      refine L3.late_free 38 (v := .bool true) rfl (by kernel_rfl) (by kernel_rfl) (by kernel_rfl) (by kernel_rfl) (by kernel_rfl) (by kernel_rfl) (fun _ _ _ h => h) (Or.inl ⟨by rfl, ?_⟩) hHeld ?_
      · (intro u _; go_simp)
      (try simp only [Act.put, List.setIfInBounds_toArray, List.set_cons_zero, List.set_cons_succ])
      refine L3.late_step 39 (by kernel_rfl) rfl (fun K hK => ?_)
      go_simp
      refine hK.out _ _ (L3.AllL.kept hHeld) ?_
      clear hK K
      (try simp only [Act.put, List.setIfInBounds_toArray, List.set_cons_zero, List.set_cons_succ])
      refine L3.late_done (by kernel_rfl) ?_ _
      have HE : Hid (Below w.heap.size w _) := HB0.out.trans (B.mono HB0.out.size)
      clear hHeld KEEP B r19 r21 r20 r26
      go_wp2_with fail
      go_ret
      exact ⟨by first | rfl | simp, HE.out⟩
  · go_simp
    obtain ⟨wl, hwl⟩ : ∃ u, u = w14.alloc (.cells #[.int .i64 3] 3) := ⟨_, rfl⟩
    have r21 : RG (Value.int .i64) wl (.slice (some ⟨w14.heap.size, 0, none⟩) 1 1) [3] := by rw [hwl]; exact rg_lit w14 [3] (by simp)
    have b21 : Below w14.heap.size w14 wl := by rw [hwl]; exact (Below.refl _ _).alloc (Nat.le_refl _) _
    rw [← hwl]
    obtain ⟨gl, hgl⟩ : ∃ g, g = w14.heap.size := ⟨_, rfl⟩
    rw [← hgl] at r21 ⊢
    clear hwl hgl
    have B := B.trans (b21.mono B.size)
    clear hHeld
    have hHeld := KEEP _ B
    refine hK.out _ _ (L3.AllL.kept hHeld) ?_
    clear hK K
    (try simp only [Act.put, List.setIfInBounds_toArray, List.set_cons_zero, List.set_cons_succ])
    refine L3.late_step 19 (by kernel_rfl) rfl (fun K hK => ?_)
    go_simp
    refine (setWithI _ [] 3 _ (RG.nil _) List.Pairwise.nil (by simp)).mono ?_
    rintro e w19 ⟨u19, k19, rfl, hP19, r19, b19⟩
    have hk19 : k19 = 0 := by have := hP19.le; simpa using this
    subst hk19
    replace r19 : RG (Value.int .i64) w19 u19 [3] := r19
    clear hP19
    obtain ⟨uo19, uc19, hu19⟩ := r19.sl
    subst hu19
    simp only [List.length_cons, List.length_nil, Nat.zero_add] at r19 ⊢
    have B := B.trans (b19.mono B.size)
    replace r21 := r21.below (Nat.le_refl _) b19
    clear hHeld
    have hHeld := KEEP _ B
    go_wp2_with fail
    refine hK.out _ _ (L3.AllL.kept hHeld) ?_
    clear hK K
    (try simp only [Act.put, List.setIfInBounds_toArray, List.set_cons_zero, List.set_cons_succ])
    refine L3.late_step 20 (by kernel_rfl) rfl (fun K hK => ?_)
    go_simp
    refine (setListI _ _ _ r19 (by simp)).mono ?_
    rintro e w20 ⟨u20, rfl, ho20, b20⟩
    have r20 := ho20.rg
    obtain ⟨uo20, uc20, hu20, -⟩ := ho20.sl
    subst hu20
    clear ho20
    simp only [List.length_cons, List.length_nil, Nat.zero_add] at r20 ⊢
    have B := B.trans (b20.mono B.size)
    replace r21 := r21.below (Nat.le_refl _) b20
    replace r19 := r19.below (Nat.le_refl _) b20
    clear hHeld
    have hHeld := KEEP _ B
    go_wp2_with fail
    refine hK.out _ _ (L3.AllL.kept hHeld) ?_
    clear hK K
    (try simp only [Act.put, List.setIfInBounds_toArray, List.set_cons_zero, List.set_cons_succ])
    refine L3.late_step 22 (by kernel_rfl) rfl (fun K hK => ?_)
    go_simp
    refine (ints_below _ _ _ _ _ r20 r21).mono ?_
    rintro e w22 ⟨rfl, b22⟩
    rw [decide_eq_true (rfl : ([3] : List Int) = [3])]
    have B := B.trans (b22.mono B.size)
    replace r21 := r21.below (Nat.le_refl _) b22
    replace r19 := r19.below (Nat.le_refl _) b22
    replace r20 := r20.below (Nat.le_refl _) b22
    clear hHeld
    have hHeld := KEEP _ B
    go_wp2_with fail
    refine hK.out _ _ (L3.AllL.kept hHeld) ?_
    clear hK K
    (try simp only [Act.put, List.setIfInBounds_toArray, List.set_cons_zero, List.set_cons_succ])
    refine L3.late_free 23 (v := .bool true) rfl (by kernel_rfl) (by kernel_rfl) (by kernel_rfl) (by kernel_rfl) (by kernel_rfl) (by kernel_rfl) (fun _ _ _ h => h) (Or.inl ⟨by rfl, ?_⟩) hHeld ?_
    · (intro u _; go_simp)
    (try simp only [Act.put, List.setIfInBounds_toArray, List.set_cons_zero, List.set_cons_succ])
    refine L3.late_free 24 (v := .bool true) rfl (by kernel_rfl) (by kernel_rfl) (by kernel_rfl) (by kernel_rfl) (by kernel_rfl) (by kernel_rfl) (fun _ _ _ h => h) (Or.inl ⟨by rfl, ?_⟩) hHeld ?_
    · (intro u _; go_simp)
    (try simp only [Act.put, List.setIfInBounds_toArray, List.set_cons_zero, List.set_cons_succ])
    refine L3.late_take 25 (v := .agg #[.slice none 0 0]) rfl (by kernel_rfl) (List.Mem.tail _ (List.Mem.tail _ (List.Mem.tail _ (List.Mem.tail _ (List.Mem.head _))))) (by kernel_rfl) (by kernel_rfl) (by kernel_rfl) (by kernel_rfl) (fun _ _ _ h => h) (Or.inl ⟨by rfl, ?_⟩) hHeld ?_
    · (intro u hu; (try dsimp only at hu); go_split_ands; go_simp)
    (try simp only [Act.put, List.setIfInBounds_toArray, List.set_cons_zero, List.set_cons_succ])
    refine L3.late_step 26 (by kernel_rfl) rfl (fun K hK => ?_)
    go_simp
    refine (setOfI _ [] _ (RG.nil _) (by simp)).mono ?_
    rintro e w26 ⟨u26, rfl, ho26, b26⟩
    have r26 : RG (Value.int .i64) w26 u26 [] := ho26.rg
    obtain ⟨uo26, uc26, hu26, -⟩ := ho26.sl
    subst hu26
    clear ho26
    have B := B.trans (b26.mono B.size)
    replace r21 := r21.below (Nat.le_refl _) b26
    replace r19 := r19.below (Nat.le_refl _) b26
    replace r20 := r20.below (Nat.le_refl _) b26
    clear hHeld
    have hHeld := KEEP _ B
    go_wp2_with fail
    refine hK.out _ _ (L3.AllL.kept hHeld) ?_
    clear hK K
    (try simp only [Act.put, List.setIfInBounds_toArray, List.set_cons_zero, List.set_cons_succ])
    refine L3.late_step 27 (by kernel_rfl) rfl (fun K hK => ?_)
    go_simp
    refine (setSameI _ _ [] [] _ (RG.nil _) r26).mono ?_
    rintro e w27 ⟨rfl, b27⟩
    rw [show allS smI [] [] = true from rfl]
    have B := B.trans (b27.mono B.size)
    replace r21 := r21.below (Nat.le_refl _) b27
    replace r19 := r19.below (Nat.le_refl _) b27
    replace r20 := r20.below (Nat.le_refl _) b27
    replace r26 := r26.below (Nat.le_refl _) b27
    clear hHeld
    have hHeld := KEEP _ B
    go_wp2_with fail
    refine hK.out _ _ (L3.AllL.kept hHeld) ?_
    clear hK K
    (try simp only [Act.put, List.setIfInBounds_toArray, List.set_cons_zero, List.set_cons_succ])
    refine L3.late_free 28 (v := .bool true) rfl (by kernel_rfl) (by kernel_rfl) (by kernel_rfl) (by kernel_rfl) (by kernel_rfl) (by kernel_rfl) (fun _ _ _ h => h) (Or.inl ⟨by rfl, ?_⟩) hHeld ?_
    · (intro u _; go_simp)
    (try simp only [Act.put, List.setIfInBounds_toArray, List.set_cons_zero, List.set_cons_succ])
    refine L3.late_free 29 (v := .bool true) rfl (by kernel_rfl) (by kernel_rfl) (by kernel_rfl) (by kernel_rfl) (by kernel_rfl) (by kernel_rfl) (fun _ _ _ h => h) (Or.inl ⟨by rfl, ?_⟩) hHeld ?_
    · (intro u _; go_simp)
    (try simp only [Act.put, List.setIfInBounds_toArray, List.set_cons_zero, List.set_cons_succ])
    refine L3.late_take 30 (v := .agg #[.slice none 0 0]) rfl (by kernel_rfl) (List.Mem.tail _ (List.Mem.tail _ (List.Mem.tail _ (List.Mem.tail _ (List.Mem.tail _ (List.Mem.head _)))))) (by kernel_rfl) (by kernel_rfl) (by kernel_rfl) (by kernel_rfl) (fun _ _ _ h => h) (Or.inl ⟨by rfl, ?_⟩) hHeld ?_
    · (intro u hu; (try dsimp only at hu); go_split_ands; go_simp)
    (try simp only [Act.put, List.setIfInBounds_toArray, List.set_cons_zero, List.set_cons_succ])
    refine L3.late_step 31 (by kernel_rfl) rfl (fun K hK => ?_)
    go_simp
    refine (sLen0 _).mono ?_
    rintro e w31 ⟨rfl, b31⟩
    have B := B.trans (b31.mono B.size)
    replace r21 := r21.below (Nat.le_refl _) b31
    replace r19 := r19.below (Nat.le_refl _) b31
    replace r20 := r20.below (Nat.le_refl _) b31
    replace r26 := r26.below (Nat.le_refl _) b31
    clear hHeld
    have hHeld := KEEP _ B
    go_wp2_with fail
    refine hK.out _ _ (L3.AllL.kept hHeld) ?_
    clear hK K
    (try simp only [Act.put, List.setIfInBounds_toArray, List.set_cons_zero, List.set_cons_succ])
    refine L3.late_free 32 (v := .bool true) rfl (by kernel_rfl) (by kernel_rfl) (by kernel_rfl) (by kernel_rfl) (by kernel_rfl) (by kernel_rfl) (fun _ _ _ h => h) (Or.inl ⟨by rfl, ?_⟩) hHeld ?_
    · (intro u _; go_simp)
    (try simp only [Act.put, List.setIfInBounds_toArray, List.set_cons_zero, List.set_cons_succ])
    refine L3.late_free 33 (v := .bool true) rfl (by kernel_rfl) (by kernel_rfl) (by kernel_rfl) (by kernel_rfl) (by kernel_rfl) (by kernel_rfl) (fun _ _ _ h => h) (Or.inl ⟨by rfl, ?_⟩) hHeld ?_
    · (intro u _; go_simp)
    (try simp only [Act.put, List.setIfInBounds_toArray, List.set_cons_zero, List.set_cons_succ])
    refine L3.late_free 34 (v := .bool true) rfl (by kernel_rfl) (by kernel_rfl) (by kernel_rfl) (by kernel_rfl) (by kernel_rfl) (by kernel_rfl) (fun _ _ _ h => h) (Or.inl ⟨by rfl, ?_⟩) hHeld ?_
    · (intro u _; go_simp)
    (try simp only [Act.put, List.setIfInBounds_toArray, List.set_cons_zero, List.set_cons_succ])
    refine L3.late_take 35 (v := .agg #[.slice none 0 0]) rfl (by kernel_rfl) (List.Mem.tail _ (List.Mem.tail _ (List.Mem.tail _ (List.Mem.tail _ (List.Mem.tail _ (List.Mem.tail _ (List.Mem.head _))))))) (by kernel_rfl) (by kernel_rfl) (by kernel_rfl) (by kernel_rfl) (fun _ _ _ h => h) (Or.inl ⟨by rfl, ?_⟩) hHeld ?_
    · (intro u hu; (try dsimp only at hu); go_split_ands; go_simp)
    (try simp only [Act.put, List.setIfInBounds_toArray, List.set_cons_zero, List.set_cons_succ])
    refine L3.late_take 36 (v := .agg #[.slice none 0 0]) rfl (by kernel_rfl) (List.Mem.tail _ (List.Mem.tail _ (List.Mem.tail _ (List.Mem.tail _ (List.Mem.tail _ (List.Mem.tail _ (List.Mem.tail _ (List.Mem.head _)))))))) (by kernel_rfl) (by kernel_rfl) (by kernel_rfl) (by kernel_rfl) (fun _ _ _ h => h) (Or.inl ⟨by rfl, ?_⟩) hHeld ?_
    · (intro u hu; (try dsimp only at hu); go_split_ands; go_simp)
    (try simp only [Act.put, List.setIfInBounds_toArray, List.set_cons_zero, List.set_cons_succ])
    refine L3.late_step 37 (by kernel_rfl) rfl (fun K hK => ?_)
    go_simp
    refine (sWithin0 _).mono ?_
    rintro e w37 ⟨rfl, b37⟩
    have B := B.trans (b37.mono B.size)
    replace r21 := r21.below (Nat.le_refl _) b37
    replace r19 := r19.below (Nat.le_refl _) b37
    replace r20 := r20.below (Nat.le_refl _) b37
    replace r26 := r26.below (Nat.le_refl _) b37
    clear hHeld
    have hHeld := KEEP _ B
    go_wp2_with fail
    refine hK.out _ _ (L3.AllL.kept hHeld) ?_
    clear hK K
    (try simp only [Act.put, List.setIfInBounds_toArray, List.set_cons_zero, List.set_cons_succ])
    refine L3.late_free 38 (v := .bool true) rfl (by kernel_rfl) (by kernel_rfl) (by kernel_rfl) (by kernel_rfl) (by kernel_rfl) (by kernel_rfl) (fun _ _ _ h => h) (Or.inl ⟨by rfl, ?_⟩) hHeld ?_
    · (intro u _; go_simp)
    (try simp only [Act.put, List.setIfInBounds_toArray, List.set_cons_zero, List.set_cons_succ])
    refine L3.late_step 39 (by kernel_rfl) rfl (fun K hK => ?_)
    go_simp
    refine hK.out _ _ (L3.AllL.kept hHeld) ?_
    clear hK K
    (try simp only [Act.put, List.setIfInBounds_toArray, List.set_cons_zero, List.set_cons_succ])
    refine L3.late_done (by kernel_rfl) ?_ _
    have HE : Hid (Below w.heap.size w _) := HB0.out.trans (B.mono HB0.out.size)
    clear hHeld KEEP B r21 r19 r20 r26
    go_wp2_with fail
    go_ret
    exact ⟨by first | rfl | simp, HE.out⟩
end Go.Proofs.Ytphmamdmkhaemaa
