/-
  Proved here: package factor's joined at one type.
-/
import Derived.Test.YtjlmignafhhjhaaFacAI
import Derived.Test.YtjlmignafhhjhaaFacC
namespace Go.Proofs.Ytjlmignafhhjhaa
set_option linter.unusedVariables false
open Go.RowKit Go.Shelf Go.Lib Go.Sort
set_option maxRecDepth 100000 in
set_option maxHeartbeats 6400000 in
theorem joinedI (s z c s' z' c' : Value) (xs zs ys us : List Int) (w : World) (hs : RK .i64 w s xs) (hz : RK .i64 w z zs) (hs' : RK .i64 w s' ys) (hz' : RK .i64 w z' us) (hl : zs.length = xs.length) (hl' : us.length = ys.length) (hr : Rise xs) (hr' : Rise ys) (hx : xs.length ≤ 100000) (hy : ys.length ≤ 100000) (hp : ∀ q ∈ zs, 1 ≤ q) (hp' : ∀ q ∈ us, 1 ≤ q) :
    Calls Try.prog 56 #[.agg #[s, z, c], .agg #[s', z', c']] w (JnE w xs zs ys us) := by
  obtain ⟨W1, hW1⟩ : ∃ W1, W1 = (w.alloc (.cells #[s, z, c] 34)).alloc (.cells #[s', z', c'] 34) := ⟨_, rfl⟩
  obtain ⟨g, hg⟩ : ∃ g, g = w.heap.size := ⟨_, rfl⟩
  have qa : BCell 34 W1 g s z c := by rw [hW1]; exact (BCell.new w hg.symm).step _
  have qb : BCell 34 W1 (g + 1) s' z' c' := by rw [hW1]; exact BCell.new _ (by simp [hg])
  have b0 : Below w.heap.size w W1 := by rw [hW1]; exact bstepB (belowB w _) (belowB _ _)
  have z0 : g + 1 + 1 ≤ W1.heap.size := by rw [hW1]; simp [hg]
  have HS : Hid (RK .i64 W1 s xs) := hs.below (Nat.le_refl _) b0
  have HZ : Hid (RK .i64 W1 z zs) := hz.below (Nat.le_refl _) b0
  have HS' : Hid (RK .i64 W1 s' ys) := hs'.below (Nat.le_refl _) b0
  have HZ' : Hid (RK .i64 W1 z' us) := hz'.below (Nat.le_refl _) b0
  have HB : Hid (Below w.heap.size w W1) := b0
  have HG : Hid (g = w.heap.size) := hg
  have HW1 : Hid (W1 = (w.alloc (.cells #[s, z, c] 34)).alloc (.cells #[s', z', c'] 34)) := hW1
  have HL : Hid (zs.length = xs.length ∧ us.length = ys.length ∧ Rise xs ∧ Rise ys ∧ xs.length ≤ 100000 ∧ ys.length ≤ 100000) := ⟨hl, hl', hr, hr', hx, hy⟩
  have HSB : Hid (∀ v, 0 ≤ szOf xs zs v ∧ szOf xs zs v ≤ 9223372036854775807 ∧ 0 ≤ szOf ys us v ∧ szOf ys us v ≤ 9223372036854775807) := fun v => ⟨szOf_nn fun q hq => by have := hp q hq; omega, szOf_le (by decide) fun q hq => (hz.bd q hq).2, szOf_nn fun q hq => by have := hp' q hq; omega, szOf_le (by decide) fun q hq => (hz'.bd q hq).2⟩
  have HOX : Hid (ofR xs = xs ∧ ofR ys = ys) := ⟨ofR_rise hr, ofR_rise hr'⟩
  have HUL : Hid ((joinR xs ys).length ≤ 200000) := by show _ ≤ _; have := len_both hr hr'; omega
  have HUR : Hid (Rise (joinR xs ys)) := rise_joinR ys hr
  have HQA : Hid (BCell 34 W1 g s z c) := qa
  have HQB : Hid (BCell 34 W1 (g + 1) s' z' c') := qb
  clear hW1 hg hs hz hs' hz' hl hl' hr hr' hx hy hp hp' b0 qa qb
  go_enter Try.func56, Try.ntmps56
  go_upto_region 1 with fail
  rw [← HW1.out, ← HG.out]
  clear HW1
  obtain ⟨ca0, ca1, ca2⟩ := HQA.out.cells
  obtain ⟨cb0, cb1, cb2⟩ := HQB.out.cells
  have KEEP : ∀ u, Below W1.heap.size W1 u → L4.AllL u [(1, fun w' => w'.cell? ⟨g, 0, none⟩ = some (s)), (4, fun w' => w'.cell? ⟨g + 1, 0, none⟩ = some (s'))] := fun u hu => ⟨keepR hu ca0, keepR hu cb0, trivial⟩
  refine L4.region_late [(1, fun w' => w'.cell? ⟨g, 0, none⟩ = some (s)), (4, fun w' => w'.cell? ⟨g + 1, 0, none⟩ = some (s'))] (by kernel_rfl) ?_
  have B : Below W1.heap.size W1 W1.drew := (Below.refl _ _).drew
  obtain ⟨w1, hw1⟩ : ∃ u, u = W1.drew := ⟨_, rfl⟩
  rw [← hw1] at B ⊢
  clear hw1
  have hHeld := KEEP _ B
  refine L4.late_free 0 (v := .pointer (some ⟨g, 0, none⟩)) rfl (by kernel_rfl) (by kernel_rfl) (by kernel_rfl) (by kernel_rfl) (by kernel_rfl) (by kernel_rfl) (fun _ _ _ h => h) (Or.inl ⟨by rfl, ?_⟩) hHeld ?_
  · (intro u _; go_simp)
  (try simp only [Act.put, List.setIfInBounds_toArray, List.set_cons_zero, List.set_cons_succ])
  refine L4.late_take 1 (v := s) rfl (by kernel_rfl) (List.Mem.head _) (by kernel_rfl) (by kernel_rfl) (by kernel_rfl) (by kernel_rfl) (fun _ _ _ h => h) (Or.inl ⟨by rfl, ?_⟩) hHeld ?_
  · (intro u hu; (try dsimp only at hu); go_split_ands; go_simp)
  (try simp only [Act.put, List.setIfInBounds_toArray, List.set_cons_zero, List.set_cons_succ])
  refine L4.late_free 3 (v := .pointer (some ⟨g + 1, 0, none⟩)) rfl (by kernel_rfl) (by kernel_rfl) (by kernel_rfl) (by kernel_rfl) (by kernel_rfl) (by kernel_rfl) (fun _ _ _ h => h) (Or.inl ⟨by rfl, ?_⟩) hHeld ?_
  · (intro u _; go_simp)
  (try simp only [Act.put, List.setIfInBounds_toArray, List.set_cons_zero, List.set_cons_succ])
  refine L4.late_take 4 (v := s') rfl (by kernel_rfl) (List.Mem.tail _ (List.Mem.head _)) (by kernel_rfl) (by kernel_rfl) (by kernel_rfl) (by kernel_rfl) (fun _ _ _ h => h) (Or.inl ⟨by rfl, ?_⟩) hHeld ?_
  · (intro u hu; (try dsimp only at hu); go_split_ands; go_simp)
  (try simp only [Act.put, List.setIfInBounds_toArray, List.set_cons_zero, List.set_cons_succ])
  refine L4.late_step 2 (by kernel_rfl) rfl (fun K hK => ?_)
  go_simp
  refine (siOfO (HS.out.rg.below (Nat.le_refl _) B) (k := 100000) (by have := HL.out; omega) (Nat.le_refl _)).mono ?_
  rintro e y2 ⟨hAo, hAn, hAc, rfl, hA, -, c2⟩
  rw [HOX.out.1] at hA
  have B := B.trans (c2.mono B.size)
  clear c2 hHeld
  have hHeld := KEEP _ B
  go_wp2_with fail
  refine hK.out _ _ (L4.AllL.kept hHeld) ?_
  clear hK K
  (try simp only [Act.put, List.setIfInBounds_toArray, List.set_cons_zero, List.set_cons_succ])
  refine L4.late_step 5 (by kernel_rfl) rfl (fun K hK => ?_)
  go_simp
  refine (siOfO (HS'.out.rg.below (Nat.le_refl _) B) (k := 100000) (by have := HL.out; omega) (Nat.le_refl _)).mono ?_
  rintro e y3 ⟨hCo, hCn, hCc, rfl, hC, -, c3⟩
  rw [HOX.out.2] at hC
  have B := B.trans (c3.mono B.size)
  replace hA := hA.below c3
  clear c3 hHeld
  have hHeld := KEEP _ B
  go_wp2_with fail
  refine hK.out _ _ (L4.AllL.kept hHeld) ?_
  clear hK K
  (try simp only [Act.put, List.setIfInBounds_toArray, List.set_cons_zero, List.set_cons_succ])
  refine L4.late_step 6 (by kernel_rfl) rfl (fun K hK => ?_)
  go_simp
  refine (siJoin hA hC (by omega) (by omega)).mono ?_
  rintro e y4 ⟨hJo, hJn, hJc, rfl, hJ, c4⟩
  have B := B.trans (c4.mono B.size)
  replace hA := hA.below c4
  replace hC := hC.below c4
  clear c4 hHeld
  have hHeld := KEEP _ B
  go_wp2_with fail
  refine hK.out _ _ (L4.AllL.kept hHeld) ?_
  clear hK K
  (try simp only [Act.put, List.setIfInBounds_toArray, List.set_cons_zero, List.set_cons_succ])
  refine L4.late_step 7 (by kernel_rfl) rfl (fun K hK => ?_)
  go_simp
  refine (setListI _ _ _ hJ.rg (by have := HUL.out; omega)).mono ?_
  rintro e y5 ⟨lu, rfl, hU, c5⟩
  replace hU := hU.mono (B' := w.heap.size) (Nat.le_trans HB.out.size (Nat.le_trans B.size (Nat.le_refl _)))
  have B := B.trans (c5.mono B.size)
  replace hA := hA.below c5
  replace hC := hC.below c5
  replace hJ := hJ.below c5
  clear c5 hHeld
  have hHeld := KEEP _ B
  go_wp2_with fail
  refine hK.out _ _ (L4.AllL.kept hHeld) ?_
  clear hK K
  (try simp only [Act.put, List.setIfInBounds_toArray, List.set_cons_zero, List.set_cons_succ])
  refine L4.late_step 8 (by kernel_rfl) rfl (fun K hK => ?_)
  go_simp
  refine hK.out _ _ (L4.AllL.kept hHeld) ?_
  clear hK K
  (try simp only [Act.put, List.setIfInBounds_toArray, List.set_cons_zero, List.set_cons_succ])
  refine L4.late_done (by kernel_rfl) ?_ _
  clear hHeld KEEP
  clear hA hC hJ ca0 ca1 ca2 cb0 cb1 cb2
  obtain ⟨uo, uc, rfl, -, huc, hum, hun⟩ := hU.sl
  have HQA : Hid (BCell 34 y5 g s z c) := HQA.out.below B
  have HQB : Hid (BCell 34 y5 (g + 1) s' z' c') := HQB.out.below B
  have HU : Hid (OG (Value.int .i64) w.heap.size 3 y5 (.slice uo (joinR xs ys).length uc) (joinR xs ys)) := hU
  have HS : Hid (RK .i64 y5 s xs) := HS.out.below (Nat.le_refl _) B
  have HZ : Hid (RK .i64 y5 z zs) := HZ.out.below (Nat.le_refl _) B
  have HS' : Hid (RK .i64 y5 s' ys) := HS'.out.below (Nat.le_refl _) B
  have HZ' : Hid (RK .i64 y5 z' us) := HZ'.out.below (Nat.le_refl _) B
  have HB : Hid (Below w.heap.size w y5) := bstepB HB.out B
  have hz1 : g + 1 + 1 ≤ y5.heap.size := Nat.le_trans z0 B.size
  clear hU B z0 hun
  obtain ⟨n, hn⟩ : ∃ n, (joinR xs ys).length = n := ⟨_, rfl⟩
  have HN : Hid ((joinR xs ys).length = n) := hn
  have hn2 : n ≤ 200000 := by rw [← hn]; exact HUL.out
  rw [hn] at HU huc
  rw [hn]
  clear hn
  unfold maxLen at hum
  obtain ⟨i0, hi, hz0, hz1', hz2⟩ := info_parts infoI
  go_wp2_with (at_make; refine wpList_zeros _ rfl _ _ 22 rfl 3 i0 .i64 Try.underlying22 hi hz0 hz1' _ _ n rfl rfl (by rw [hz2]; omega) (by omega) ?_)
  clear hi hz0 hz1' hz2
  obtain ⟨W3, hW3⟩ : ∃ u, u = y5.alloc (.cells (Array.replicate n (.int .i64 0)) 3) := ⟨_, rfl⟩
  obtain ⟨gz, hgz⟩ : ∃ u, u = y5.heap.size := ⟨_, rfl⟩
  rw [← hW3, ← hgz]
  have b3 : Below y5.heap.size y5 W3 := by rw [hW3]; exact belowB _ _
  have HR0 : Hid (W3.heap[gz]? = some (.cells ((jSk xs zs ys us 0).map (Value.int .i64)).toArray 3 (0, 0))) := by show _ = _; rw [hW3, hgz, heap_alloc_new, jSk_zero, HN.out, map_rep]
  have HGZ : Hid (gz = y5.heap.size) := hgz
  have HW3B : Hid (Below y5.heap.size y5 W3) := b3
  have hlt3 : y5.heap.size < W3.heap.size := by rw [hW3]; simp
  clear hW3 hgz b3
  have HB3 : Hid (Below w.heap.size w W3) := bstepB HB.out HW3B.out
  go_loopg [4, 5, 6, 7, 8, 9, 10, 24] n (fun g1 v4 v5 v6 _v7 _v8 _v9 _v10 v24 wr => ∃ i : Nat, v24 = .int .i64 i ∧ v4 = .slice uo n uc ∧ v5 = .slice (some ⟨gz, 0, none⟩) n n ∧ v6 = .int .i64 0 ∧ i ≤ n ∧ n - i ≤ g1 ∧ Hid ((joinR xs ys).any (two xs zs ys us) = ((joinR xs ys).drop i).any (two xs zs ys us)) ∧ Hid (wr.heap[gz]? = some (.cells ((jSk xs zs ys us i).map (Value.int .i64)).toArray 3 (0, 0))) ∧ Hid (Below y5.heap.size y5 wr) ∧ y5.heap.size < wr.heap.size)
  case atStart => exact ⟨0, rfl, rfl, rfl, rfl, Nat.zero_le _, by omega, rfl, HR0, HW3B, hlt3⟩
  case round =>
    clear HR0 HW3B HB3 hlt3
    obtain ⟨i, rfl, rfl, rfl, rfl, hin, hg1, HAny, HR, HWr, hltw⟩ := hrel
    have HBr : Hid (Below w.heap.size w wr) := bstepB HB.out HWr.out
    by_cases hlt : i < n
    · have hltz : (i : Int) < (n : Int) := by omega
      obtain ⟨v, hv⟩ : ∃ v, (joinR xs ys)[i]? = some v := ⟨_, List.getElem?_eq_getElem (by rw [HN.out]; exact hlt)⟩
      have HAny2 : Hid ((joinR xs ys).any (two xs zs ys us) = (two xs zs ys us v || ((joinR xs ys).drop (i + 1)).any (two xs zs ys us))) := by show _ = _; rw [HAny.out, drop_cons hv, List.any_cons]
      obtain ⟨x', ug, uof, hx', huo, hcv⟩ := (HU.out.rg.below (Nat.le_refl _) HWr.out).at hlt
      obtain rfl : x' = v := by rw [hv] at hx'; exact (Option.some.inj hx').symm
      clear hx'
      subst huo
      obtain ⟨ca0, ca1, ca2⟩ := (HQA.out.below HWr.out).cells
      obtain ⟨cb0, cb1, cb2⟩ := (HQB.out.below HWr.out).cells
      have HST : Hid ((jSk xs zs ys us i).set i (mxZ (szOf xs zs x') (szOf ys us x')) = jSk xs zs ys us (i + 1)) := jSk_step hv
      have HTW : Hid (two xs zs ys us x' = (decide (0 < szOf xs zs x') && (decide (0 < szOf ys us x') && !decide (szOf xs zs x' = szOf ys us x')))) := rfl
      have C1 : Hid (∀ u, Below wr.heap.size wr u → Calls Try.prog 83 #[.agg #[s, z, c], .int .i64 x'] u fun e w' => e = .returned (.int .i64 (szOf xs zs x')) ∧ Below u.heap.size u w') := fun u hu => sizeOfI s z c xs zs x' u (HS.out.below (Nat.le_refl _) (bstepB HWr.out hu)) (HZ.out.below (Nat.le_refl _) (bstepB HWr.out hu)) HL.out.1 HL.out.2.2.1 (by have := HL.out; omega)
      have C2 : Hid (∀ u, Below wr.heap.size wr u → Calls Try.prog 83 #[.agg #[s', z', c'], .int .i64 x'] u fun e w' => e = .returned (.int .i64 (szOf ys us x')) ∧ Below u.heap.size u w') := fun u hu => sizeOfI s' z' c' ys us x' u (HS'.out.below (Nat.le_refl _) (bstepB HWr.out hu)) (HZ'.out.below (Nat.le_refl _) (bstepB HWr.out hu)) HL.out.2.1 HL.out.2.2.2.1 (by have := HL.out; omega)
      obtain ⟨sb1, sb2, sb3, sb4⟩ := HSB.out x'
      clear hv HAny
      generalize szOf xs zs x' = p at *
      generalize szOf ys us x' = q at *
      have HSBk : Hid (0 ≤ p ∧ p ≤ 9223372036854775807 ∧ 0 ≤ q ∧ q ≤ 9223372036854775807) := ⟨sb1, sb2, sb3, sb4⟩
      clear sb1 sb2 sb3 sb4
      go_upto_region 6 with fail
      have KEEP : ∀ u, Below wr.heap.size wr u → L4.AllL u [(0, fun w' => w'.cell? ⟨g, 0, none⟩ = some (s) ∧ w'.cell? ⟨g, 1, none⟩ = some (z) ∧ w'.cell? ⟨g, 2, none⟩ = some (c)), (3, fun w' => w'.cell? ⟨g + 1, 0, none⟩ = some (s') ∧ w'.cell? ⟨g + 1, 1, none⟩ = some (z') ∧ w'.cell? ⟨g + 1, 2, none⟩ = some (c'))] := fun u hu => ⟨⟨keepR hu ca0, keepR hu ca1, keepR hu ca2⟩, ⟨keepR hu cb0, keepR hu cb1, keepR hu cb2⟩, trivial⟩
      refine L4.region_late [(0, fun w' => w'.cell? ⟨g, 0, none⟩ = some (s) ∧ w'.cell? ⟨g, 1, none⟩ = some (z) ∧ w'.cell? ⟨g, 2, none⟩ = some (c)), (3, fun w' => w'.cell? ⟨g + 1, 0, none⟩ = some (s') ∧ w'.cell? ⟨g + 1, 1, none⟩ = some (z') ∧ w'.cell? ⟨g + 1, 2, none⟩ = some (c'))] (by kernel_rfl) ?_
      have B : Below wr.heap.size wr wr.drew := (Below.refl _ _).drew
      obtain ⟨w6, hw6⟩ : ∃ u, u = wr.drew := ⟨_, rfl⟩
      rw [← hw6] at B ⊢
      clear hw6
      have hHeld := KEEP _ B
      refine L4.late_take 0 (v := .agg #[s, z, c]) rfl (by kernel_rfl) (List.Mem.head _) (by kernel_rfl) (by kernel_rfl) (by kernel_rfl) (by kernel_rfl) (fun _ _ _ h => h) (Or.inl ⟨by rfl, ?_⟩) hHeld ?_
      · (intro u hu; (try dsimp only at hu); go_split_ands; go_simp)
      (try simp only [Act.put, List.setIfInBounds_toArray, List.set_cons_zero, List.set_cons_succ])
      refine L4.late_free 1 (v := .int .i64 x') rfl (by kernel_rfl) (by kernel_rfl) (by kernel_rfl) (by kernel_rfl) (by kernel_rfl) (by kernel_rfl) (fun _ _ _ h => h) (Or.inl ⟨by rfl, ?_⟩) hHeld ?_
      · (intro u _; go_simp)
      (try simp only [Act.put, List.setIfInBounds_toArray, List.set_cons_zero, List.set_cons_succ])
      refine L4.late_take 3 (v := .agg #[s', z', c']) rfl (by kernel_rfl) (List.Mem.tail _ (List.Mem.head _)) (by kernel_rfl) (by kernel_rfl) (by kernel_rfl) (by kernel_rfl) (fun _ _ _ h => h) (Or.inl ⟨by rfl, ?_⟩) hHeld ?_
      · (intro u hu; (try dsimp only at hu); go_split_ands; go_simp)
      (try simp only [Act.put, List.setIfInBounds_toArray, List.set_cons_zero, List.set_cons_succ])
      refine L4.late_free 4 (v := .int .i64 x') rfl (by kernel_rfl) (by kernel_rfl) (by kernel_rfl) (by kernel_rfl) (by kernel_rfl) (by kernel_rfl) (fun _ _ _ h => h) (Or.inl ⟨by rfl, ?_⟩) hHeld ?_
      · (intro u _; go_simp)
      (try simp only [Act.put, List.setIfInBounds_toArray, List.set_cons_zero, List.set_cons_succ])
      refine L4.late_step 2 (by kernel_rfl) rfl (fun K hK => ?_)
      go_simp
      refine Calls.mono (C1.out _ B) ?_
      rintro e y7 ⟨rfl, c7⟩
      have B := B.trans (c7.mono B.size)
      clear c7 hHeld
      have hHeld := KEEP _ B
      go_wp2_with fail
      refine hK.out _ _ (L4.AllL.kept hHeld) ?_
      clear hK K
      (try simp only [Act.put, List.setIfInBounds_toArray, List.set_cons_zero, List.set_cons_succ])
      refine L4.late_step 5 (by kernel_rfl) rfl (fun K hK => ?_)
      go_simp
      refine Calls.mono (C2.out _ B) ?_
      rintro e y8 ⟨rfl, c8⟩
      have B := B.trans (c8.mono B.size)
      clear c8 hHeld
      have hHeld := KEEP _ B
      go_wp2_with fail
      refine hK.out _ _ (L4.AllL.kept hHeld) ?_
      clear hK K
      (try simp only [Act.put, List.setIfInBounds_toArray, List.set_cons_zero, List.set_cons_succ])
      refine L4.late_step 6 (by kernel_rfl) rfl (fun K hK => ?_)
      go_simp
      refine hK.out _ _ (L4.AllL.kept hHeld) ?_
      clear hK K
      (try simp only [Act.put, List.setIfInBounds_toArray, List.set_cons_zero, List.set_cons_succ])
      refine L4.late_step 7 (by kernel_rfl) rfl (fun K hK => ?_)
      go_simp
      refine hK.out _ _ (L4.AllL.kept hHeld) ?_
      clear hK K
      (try simp only [Act.put, List.setIfInBounds_toArray, List.set_cons_zero, List.set_cons_succ])
      refine L4.late_done (by kernel_rfl) ?_ _
      clear hHeld KEEP
      have HRn : Hid (y8.heap[gz]? = some (.cells ((jSk xs zs ys us i).map (Value.int .i64)).toArray 3 (0, 0))) := by show _ = _; rw [B.block gz (by rw [HGZ.out]; exact hltw)]; exact HR.out
      have HWn : Hid (Below y5.heap.size y5 y8) := bstepB HWr.out B
      have hltn : y5.heap.size < y8.heap.size := Nat.lt_of_lt_of_le hltw B.size
      have HBn : Hid (Below w.heap.size w y8) := bstepB HBr.out B
      clear B HR HWr HBr ca0 ca1 ca2 cb0 cb1 cb2 C1 C2 hcv
      obtain ⟨sb1, sb2, sb3, sb4⟩ := HSBk.out
      have hdif : ∀ (h : (0 < p ∧ 0 < q) ∧ p ≠ q), JnE w xs zs ys us (.returned (.tuple #[.slice none 0 0, .slice none 0 0, .int .i64 61])) y8 := fun h => ⟨HBn.out, .inl ⟨by show (joinR xs ys).any (two xs zs ys us) = true; rw [HAny2.out, HTW.out]; simp [h.1.1, h.1.2, h.2], rfl⟩⟩
      have HDF : Hid (((0 < p ∧ 0 < q) ∧ p ≠ q) → JnE w xs zs ys us (.returned (.tuple #[.slice none 0 0, .slice none 0 0, .int .i64 61])) y8) := hdif
      have HGO : Hid (¬ ((0 < p ∧ 0 < q) ∧ p ≠ q) → (joinR xs ys).any (two xs zs ys us) = ((joinR xs ys).drop (i + 1)).any (two xs zs ys us)) := fun h => by
        rw [HAny2.out, HTW.out]
        have : (decide (0 < p) && (decide (0 < q) && !decide (p = q))) = false := by
          by_cases h1 : 0 < p
          · by_cases h2 : 0 < q
            · by_cases h3 : p = q
              · simp [h3]
              · exact absurd ⟨⟨h1, h2⟩, h3⟩ h
            · simp [h2]
          · simp [h1]
        rw [this, Bool.false_or]
      clear hdif HAny2 HTW
      have hfz : y8.frozen? ⟨gz, i, none⟩ = false := frozen_of_row _ _ _ _ _ HRn.out
      have hcz := row_cell HRn.out (i := i) (by rw [jSk_len _ _ _ _ _ (by rw [HN.out]; exact hin), HN.out]; exact hlt)
      have hnext : ∀ x, mxZ p q = x → (y8.setCell ⟨gz, i, none⟩ (.int .i64 x)).heap[gz]? = some (.cells ((jSk xs zs ys us (i + 1)).map (Value.int .i64)).toArray 3 (0, 0)) ∧ Below y5.heap.size y5 (y8.setCell ⟨gz, i, none⟩ (.int .i64 x)) ∧ y5.heap.size < (y8.setCell ⟨gz, i, none⟩ (.int .i64 x)).heap.size := fun x hx => by
        refine ⟨?_, HWn.out.setCell (p := ⟨gz, i, none⟩) (by show _ ≤ gz; rw [HGZ.out]; exact Nat.le_refl _) _, by simpa using hltn⟩
        rw [row_set HRn.out x, ← HST.out, hx]
      have HNX : Hid (∀ x, mxZ p q = x → (y8.setCell ⟨gz, i, none⟩ (.int .i64 x)).heap[gz]? = some (.cells ((jSk xs zs ys us (i + 1)).map (Value.int .i64)).toArray 3 (0, 0)) ∧ Below y5.heap.size y5 (y8.setCell ⟨gz, i, none⟩ (.int .i64 x)) ∧ y5.heap.size < (y8.setCell ⟨gz, i, none⟩ (.int .i64 x)).heap.size) := hnext
      clear hnext HST HRn HWn
      generalize (jSk xs zs ys us i).getD i 0 = y0 at hcz
      by_cases hp0 : 0 < p
      · have hp1 : decide (0 < p) = true := decide_eq_true hp0
        by_cases hq0 : 0 < q
        · have hq1 : decide (0 < q) = true := decide_eq_true hq0
          by_cases hpq : p = q
          · subst hpq
            have hne : (p != p) = false := by simp
            have hG := HGO.out (fun h => h.2 rfl)
            have HG2 : Hid ((joinR xs ys).any (two xs zs ys us) = ((joinR xs ys).drop (i + 1)).any (two xs zs ys us)) := hG
            have hN := HNX.out p (by simp [mxZ])
            have HN2 : Hid _ := hN
            have hii : ¬ p < p := by omega
            clear hG hN HNX HGO HDF HSBk sb3 sb4
            go_wp2
            go_roundg (n - (i + 1))
            case measure => omega
            case rel => exact ⟨i + 1, by go_num, rfl, rfl, rfl, by omega, Nat.le_refl _, HG2, HN2.out.1, HN2.out.2.1, HN2.out.2.2⟩
          · have hne : (p != q) = true := by simpa using hpq
            have HDE : Hid (JnE w xs zs ys us (.returned (.tuple #[.slice none 0 0, .slice none 0 0, .int .i64 61])) y8) := HDF.out ⟨⟨hp0, hq0⟩, hpq⟩
            clear HNX HGO HDF hpq
            go_wp2
            go_ret3
            exact HDE.out
        · have hq1 : decide (0 < q) = false := decide_eq_false hq0
          have hG := HGO.out (fun h => hq0 h.1.2)
          have HG2 : Hid ((joinR xs ys).any (two xs zs ys us) = ((joinR xs ys).drop (i + 1)).any (two xs zs ys us)) := hG
          have hN := HNX.out (max p q) (by unfold mxZ; split <;> omega)
          have HN2 : Hid _ := hN
          have hii : ¬ p < q := by omega
          have hii2 : q < p := by omega
          clear hG hN HNX HGO HDF HSBk
          go_wp2
          go_roundg (n - (i + 1))
          case measure => omega
          case rel => exact ⟨i + 1, by go_num, rfl, rfl, rfl, by omega, Nat.le_refl _, HG2, HN2.out.1, HN2.out.2.1, HN2.out.2.2⟩
      · have hp1 : decide (0 < p) = false := decide_eq_false hp0
        have hp2 : p = 0 := by omega
        subst hp2
        have hG := HGO.out (fun h => hp0 h.1.1)
        have HG2 : Hid ((joinR xs ys).any (two xs zs ys us) = ((joinR xs ys).drop (i + 1)).any (two xs zs ys us)) := hG
        have hN := HNX.out (max 0 q) (by unfold mxZ; split <;> omega)
        have HN2 : Hid _ := hN
        clear hG hN HNX HGO HDF HSBk
        go_wp2
        go_roundg (n - (i + 1))
        case measure => omega
        case rel => exact ⟨i + 1, by go_num, rfl, rfl, rfl, by omega, Nat.le_refl _, HG2, HN2.out.1, HN2.out.2.1, HN2.out.2.2⟩
    · have hltz : ¬ (i : Int) < (n : Int) := by omega
      have hi2 : i = n := by omega
      subst hi2
      have HE : Hid (JnE w xs zs ys us (.returned (.tuple #[.slice uo i uc, .slice (some ⟨gz, 0, none⟩) i i, .int .i64 0])) wr) := by
        refine ⟨HBr.out, .inr ⟨?_, .slice uo i uc, gz, by rw [HN.out], HU.out.below HWr.out, ?_, ?_, ?_⟩⟩
        · show (joinR xs ys).any (two xs zs ys us) = false
          rw [HAny.out, List.drop_of_length_le (by rw [HN.out]; exact Nat.le_refl _)]; rfl
        · have := HR.out; rw [← HN.out, jSk_full] at this; exact this
        · rw [HGZ.out]; exact HB.out.size
        · intro e; have := (HU.out.lt _ e).2; rw [HGZ.out] at this; omega
      clear HAny HR HWr HBr hltz
      go_wp2
      go_ret3
      exact HE.out
end Go.Proofs.Ytjlmignafhhjhaa
