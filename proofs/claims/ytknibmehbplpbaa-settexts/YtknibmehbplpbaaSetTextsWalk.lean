/-
  Proved here: SetTexts's own walk.
-/
import Derived.Test.YtknibmehbplpbaaSetXS
import Derived.Deep.CutRange
namespace Go.Proofs.Ytknibmehbplpbaa
open Go.Shelf Go.RowKit Go.Lib Go.Sort
set_option maxHeartbeats 16000000 in
set_option maxRecDepth 1000000 in
theorem setTexts_top (v0 : Value) (L0 : List ByteArray) (x : ByteArray) (w : World) (hv0 : RG Value.string w v0 L0) :
    Calls Try.prog 4 #[v0, .string x] w fun e w' => e = .returned (.bool true) ∧ Below w.heap.size w w' := by
  obtain ⟨g, hg⟩ : ∃ g, g = w.heap.size := ⟨_, rfl⟩
  have HG : Hid (g = w.heap.size) := hg
  rw [← hg]
  obtain ⟨a0, p0, rfl, hc0, hm0, -⟩ := id hv0
  unfold maxLen at hm0
  obtain ⟨n0, hn0⟩ : ∃ n, L0.length = n := ⟨_, rfl⟩
  rw [hn0] at hc0 hv0 ⊢
  have HN0 : Hid (L0.length = n0) := hn0
  clear hn0 hg
  have hx1 : ∀ y : ByteArray, (y.toList == y.toList) = true := fun y => by simp
  go_enter Try.func4, Try.ntmps4
  by_cases h300 : 300 < n0
  · have hz : (n0 : Int) > 300 := by omega
    have HE : Hid (Below g w w) := Below.refl _ _
    go_wp2
    go_ret
    exact ⟨rfl, HE.out⟩
  · have hz : ¬ (n0 : Int) > 300 := by omega
    have CC : Hid _ := rOfS _ L0 w hv0 (by rw [HN0.out]; omega)
    go_wp2_with fail
    refine Calls.mono CC.out ?_
    rintro e w1 ⟨pv, rfl, op, b1⟩
    clear CC
    have hv1 := hv0.below (Nat.le_refl _) b1
    have bw : Below g w w1 := by rw [HG.out]; exact b1
    have zw : g ≤ w1.heap.size := by have := bw.size; have := HG.out; omega
    clear b1 hv0
    have CC : Hid _ := sxOfS hv1 (k := 300) (by rw [HN0.out]; omega) (by omega)
    go_wp2_with fail
    refine Calls.mono CC.out ?_
    rintro e w2 ⟨so, sl, sc, rfl, hs, b2⟩
    clear CC hv1
    have op := op.below b2
    have bw := bw.trans (b2.mono zw)
    have zw : g ≤ w2.heap.size := Nat.le_trans zw b2.size
    clear b2
    obtain ⟨WA, hWA⟩ : ∃ u, u = w2.alloc (.cells #[.slice so sl sc] 38) := ⟨_, rfl⟩
    obtain ⟨bs, hbs⟩ : ∃ s, s = w2.heap.size := ⟨_, rfl⟩
    have sbs : SCell 38 WA bs (.slice so sl sc) := by rw [hWA, hbs]; exact SCell.new w2 rfl
    have bq : Below w2.heap.size w2 WA := by rw [hWA]; exact (Below.refl _ _).alloc (Nat.le_refl _) _
    have HWA : Hid (WA = w2.alloc (.cells #[.slice so sl sc] 38)) := hWA
    have HBS : Hid (bs = w2.heap.size) := hbs
    clear hWA hbs
    have hs := hs.below bq
    have op := op.below bq
    have bw := bw.trans (bq.mono zw)
    have zw : g ≤ WA.heap.size := Nat.le_trans zw bq.size
    clear bq
    have cs := sbs.cell
    go_upto_region 5 with fail
    rw [← HWA.out, ← HBS.out]
    clear HWA HBS
    have CC : Hid _ := sxListS hs (by omega)
    go_wp2_with fail
    refine Calls.mono CC.out ?_
    rintro e W3 ⟨lv, rfl, ol, b3⟩
    clear CC cs
    have hs := hs.below b3
    have op := op.below b3
    have sbs := sbs.below b3
    have bw := bw.trans (b3.mono zw)
    have zw : g ≤ W3.heap.size := Nat.le_trans zw b3.size
    clear b3
    have rl := ol.rg
    have rp := op.rg
    clear ol op
    obtain ⟨T, hT⟩ : ∃ T, T = ofD (ltOf cfS) L0 := ⟨_, rfl⟩
    rw [← hT] at hs rl rp
    clear hT
    obtain ⟨lo, lc, rfl, hlc, hlm, -⟩ := id rl
    obtain ⟨po, pc, rfl, hpc, hpm, -⟩ := id rp
    unfold maxLen at hlm hpm
    obtain ⟨n, hn⟩ : ∃ n, T.length = n := ⟨_, rfl⟩
    have CC : Hid _ := sxLenS hs
    rw [hn] at hlc hpc rl rp CC ⊢
    have hn3 : n ≤ 300 := by have := hs.len; omega
    have HN : Hid (T.length = n) := hn
    clear hn
    have cs := sbs.cell
    go_wp2_with fail
    refine Calls.mono CC.out ?_
    rintro e W4 ⟨rfl, b4⟩
    clear CC cs
    have hs := hs.below b4
    have rl := rl.below (Nat.le_refl _) b4
    have rp := rp.below (Nat.le_refl _) b4
    have sbs := sbs.below b4
    have bw := bw.trans (b4.mono zw)
    have zw : g ≤ W4.heap.size := Nat.le_trans zw b4.size
    clear b4
    have CL : Hid (∀ W, Below W4.heap.size W4 W → ∀ i, i < n → ∃ y gg o, T[i]? = some y ∧ lo = some ⟨gg, o, none⟩ ∧ W.cell? ⟨gg, o + i, none⟩ = some (.string y)) := fun W h i hi => (rl.below (Nat.le_refl _) h).at hi
    have CP : Hid (∀ W, Below W4.heap.size W4 W → ∀ i, i < n → ∃ y gg o, T[i]? = some y ∧ po = some ⟨gg, o, none⟩ ∧ W.cell? ⟨gg, o + i, none⟩ = some (.string y)) := fun W h i hi => (rp.below (Nat.le_refl _) h).at hi
    have HS : Hid (SXS W4 (.slice so sl sc) T 300) := hs
    have HB : Hid (SCell 38 W4 bs (.slice so sl sc)) := sbs
    have HW : Hid (Below g w W4 ∧ g ≤ W4.heap.size) := ⟨bw, zw⟩
    clear hs sbs bw zw rl rp
    go_wp2
    go_loopg [8, 9] n (fun g1 v8 v9 wr => ∃ (i : Nat) (bb : Bool), v8 = .bool bb ∧ v9 = .int .i64 i ∧ i ≤ n ∧ n - i ≤ g1 ∧ Hid (bb = (T.take i).any (fun y => y.toList == x.toList)) ∧ Hid (Below W4.heap.size W4 wr))
    case atStart => exact ⟨0, false, rfl, rfl, Nat.zero_le _, by omega, rfl, Below.refl _ _⟩
    case round =>
      obtain ⟨i, bb, rfl, rfl, hin, hg1, HBB, HBW⟩ := hrel
      by_cases hlt : i < n
      · have hltz : (i : Int) < (n : Int) := by omega
        obtain ⟨y, gl, ol, hy, e1, c1⟩ := CL.out _ HBW.out i hlt
        subst e1
        obtain ⟨y2, gp, op, hy2, e2, c2⟩ := CP.out _ HBW.out i hlt
        subst e2
        have hyy : y = y2 := by rw [hy] at hy2; exact Option.some.inj hy2
        subst hyy
        have HY : Hid (T[i]? = some y) := hy
        clear hy hy2
        have hself := hx1 y
        go_wp2_with fail
        go_quiet (fail)
        clear hself c1 c2
        have B2 : Hid (Below W4.heap.size W4 (wr.drewN nq)) := below_drewN HBW.out nq
        clear HBW
        generalize wr.drewN nq = wq at B2 ⊢
        clear nq
        obtain ⟨y', gl', ol', hy', e1', c1⟩ := CL.out _ B2.out i hlt
        cases e1'
        have hyy : y = y' := by rw [HY.out] at hy'; exact Option.some.inj hy'
        subst hyy
        clear hy'
        have HNX : Hid ((T.take (i + 1)).any (fun y => y.toList == x.toList) = (bb || (y.toList == x.toList))) := by show _ = _; rw [take_snoc HY.out, List.any_append, ← HBB.out]; simp
        cases bb with
        | true =>
          go_wp2
          go_roundg (n - (i + 1))
          case measure => omega
          case rel => exact ⟨i + 1, true, rfl, by go_num, by omega, Nat.le_refl _, HNX.out.symm, B2⟩
        | false =>
          obtain ⟨be, hbe⟩ : ∃ b, (y.toList == x.toList) = b := ⟨_, rfl⟩
          have HNY : Hid ((T.take (i + 1)).any (fun y => y.toList == x.toList) = be) := by show _ = _; rw [HNX.out, hbe]; rfl
          clear HNX
          go_wp2
          go_roundg (n - (i + 1))
          case measure => omega
          case rel => exact ⟨i + 1, be, rfl, by go_num, by omega, Nat.le_refl _, HNY.out.symm, B2⟩
      · have hltz : ¬ (i : Int) < (n : Int) := by omega
        have HH : Hid (hasS T x = bb) := by show _ = _; rw [has_S, HBB.out, List.take_of_length_le (by rw [HN.out]; omega)]
        have hs := HS.out.below HBW.out
        have sbs := HB.out.below HBW.out
        have bw := HW.out.1.trans (HBW.out.mono HW.out.2)
        have zw := Nat.le_trans HW.out.2 HBW.out.size
        clear HBB HBW
        go_upto_region 15 with fail
        have KEEP : ∀ u, Below wr.heap.size wr u → L3.AllL u [(0, fun w' => w'.cell? ⟨bs, 0, none⟩ = some (.slice so sl sc)), (6, fun w' => w'.cell? ⟨bs, 0, none⟩ = some (.slice so sl sc)), (13, fun w' => w'.cell? ⟨bs, 0, none⟩ = some (.slice so sl sc)), (21, fun w' => w'.cell? ⟨bs, 0, none⟩ = some (.slice so sl sc)), (22, fun w' => w'.cell? ⟨bs, 0, none⟩ = some (.slice so sl sc)), (24, fun w' => w'.cell? ⟨bs, 0, none⟩ = some (.slice so sl sc))] := fun u hu => ⟨(sbs.below hu).cell, (sbs.below hu).cell, (sbs.below hu).cell, (sbs.below hu).cell, (sbs.below hu).cell, (sbs.below hu).cell, trivial⟩
        refine L3.region_late [(0, fun w' => w'.cell? ⟨bs, 0, none⟩ = some (.slice so sl sc)), (6, fun w' => w'.cell? ⟨bs, 0, none⟩ = some (.slice so sl sc)), (13, fun w' => w'.cell? ⟨bs, 0, none⟩ = some (.slice so sl sc)), (21, fun w' => w'.cell? ⟨bs, 0, none⟩ = some (.slice so sl sc)), (22, fun w' => w'.cell? ⟨bs, 0, none⟩ = some (.slice so sl sc)), (24, fun w' => w'.cell? ⟨bs, 0, none⟩ = some (.slice so sl sc))] (by kernel_rfl) ?_
        have B : Below wr.heap.size wr wr.drew := (Below.refl _ _).drew
        obtain ⟨w1, hw1⟩ : ∃ u, u = wr.drew := ⟨_, rfl⟩
        rw [← hw1] at B ⊢
        clear hw1
        have hHeld := KEEP _ B
        refine L3.late_take 0 (v := .agg #[.slice so sl sc]) rfl (by kernel_rfl) (List.Mem.head _) (by kernel_rfl) (by kernel_rfl) (by kernel_rfl) (by kernel_rfl) (fun _ _ _ h => h) (Or.inl ⟨by rfl, ?_⟩) hHeld ?_
        · (intro u hu; (try dsimp only at hu); go_split_ands; go_simp)
        (try simp only [Act.put, List.setIfInBounds_toArray, List.set_cons_zero, List.set_cons_succ])
        refine L3.late_free 1 (v := .string x) rfl (by kernel_rfl) (by kernel_rfl) (by kernel_rfl) (by kernel_rfl) (by kernel_rfl) (by kernel_rfl) (fun _ _ _ h => h) (Or.inl ⟨by rfl, ?_⟩) hHeld ?_
        · (intro u _; go_simp)
        (try simp only [Act.put, List.setIfInBounds_toArray, List.set_cons_zero, List.set_cons_succ])
        refine L3.late_free 3 (v := .bool bb) rfl (by kernel_rfl) (by kernel_rfl) (by kernel_rfl) (by kernel_rfl) (by kernel_rfl) (by kernel_rfl) (fun _ _ _ h => h) (Or.inl ⟨by rfl, ?_⟩) hHeld ?_
        · (intro u _; go_simp)
        (try simp only [Act.put, List.setIfInBounds_toArray, List.set_cons_zero, List.set_cons_succ])
        refine L3.late_step 2 (by kernel_rfl) rfl (fun K hK => ?_)
        go_simp
        have CH := sxHasS (hs.below B) (by omega) x
        rw [HH.out] at CH
        refine CH.mono ?_
        rintro e u2 ⟨rfl, c2⟩
        clear CH
        have B := B.trans (c2.mono B.size)
        clear c2 hHeld
        have hHeld := KEEP _ B
        go_wp2_with fail
        refine hK.out _ _ (L3.AllL.kept hHeld) ?_
        clear hK K
        (try simp only [Act.put, List.setIfInBounds_toArray, List.set_cons_zero, List.set_cons_succ])
        refine L3.late_free 4 (v := .bool true) rfl (by kernel_rfl) (by kernel_rfl) (by kernel_rfl) (by kernel_rfl) (by kernel_rfl) (by kernel_rfl) (fun _ _ _ h => h) (Or.inl ⟨by rfl, ?_⟩) hHeld ?_
        · (intro u _; go_simp)
        (try simp only [Act.put, List.setIfInBounds_toArray, List.set_cons_zero, List.set_cons_succ])
        refine L3.late_free 5 (v := .bool true) rfl (by kernel_rfl) (by kernel_rfl) (by kernel_rfl) (by kernel_rfl) (by kernel_rfl) (by kernel_rfl) (fun _ _ _ h => h) (Or.inl ⟨by rfl, ?_⟩) hHeld ?_
        · (intro u _; go_simp)
        (try simp only [Act.put, List.setIfInBounds_toArray, List.set_cons_zero, List.set_cons_succ])
        refine L3.late_take 6 (v := .agg #[.slice so sl sc]) rfl (by kernel_rfl) (List.Mem.tail _ (List.Mem.head _)) (by kernel_rfl) (by kernel_rfl) (by kernel_rfl) (by kernel_rfl) (fun _ _ _ h => h) (Or.inl ⟨by rfl, ?_⟩) hHeld ?_
        · (intro u hu; (try dsimp only at hu); go_split_ands; go_simp)
        (try simp only [Act.put, List.setIfInBounds_toArray, List.set_cons_zero, List.set_cons_succ])
        refine L3.late_free 7 (v := .string x) rfl (by kernel_rfl) (by kernel_rfl) (by kernel_rfl) (by kernel_rfl) (by kernel_rfl) (by kernel_rfl) (fun _ _ _ h => h) (Or.inl ⟨by rfl, ?_⟩) hHeld ?_
        · (intro u _; go_simp)
        (try simp only [Act.put, List.setIfInBounds_toArray, List.set_cons_zero, List.set_cons_succ])
        refine L3.late_free 9 (v := .string x) rfl (by kernel_rfl) (by kernel_rfl) (by kernel_rfl) (by kernel_rfl) (by kernel_rfl) (by kernel_rfl) (fun _ _ _ h => h) (Or.inl ⟨by rfl, ?_⟩) hHeld ?_
        · (intro u _; go_simp)
        (try simp only [Act.put, List.setIfInBounds_toArray, List.set_cons_zero, List.set_cons_succ])
        refine L3.late_step 8 (by kernel_rfl) rfl (fun K hK => ?_)
        go_simp
        refine (sxWithS (hs.below B) (by omega) x).mono ?_
        rintro e u3 ⟨o3, l3, k3, rfl, hwith3, c3⟩
        have B := B.trans (c3.mono B.size)
        clear c3 hHeld
        have hHeld := KEEP _ B
        go_wp2_with fail
        refine hK.out _ _ (L3.AllL.kept hHeld) ?_
        clear hK K
        (try simp only [Act.put, List.setIfInBounds_toArray, List.set_cons_zero, List.set_cons_succ])
        refine L3.late_step 10 (by kernel_rfl) rfl (fun K hK => ?_)
        go_simp
        have CH := sxHasS hwith3 (by omega) x
        rw [has_withS] at CH
        refine CH.mono ?_
        rintro e u4 ⟨rfl, c4⟩
        clear CH
        have B := B.trans (c4.mono B.size)
        replace hwith3 := hwith3.below c4
        clear c4 hHeld
        have hHeld := KEEP _ B
        go_wp2_with fail
        refine hK.out _ _ (L3.AllL.kept hHeld) ?_
        clear hK K
        (try simp only [Act.put, List.setIfInBounds_toArray, List.set_cons_zero, List.set_cons_succ])
        refine L3.late_free 11 (v := .bool true) rfl (by kernel_rfl) (by kernel_rfl) (by kernel_rfl) (by kernel_rfl) (by kernel_rfl) (by kernel_rfl) (fun _ _ _ h => h) (Or.inl ⟨by rfl, ?_⟩) hHeld ?_
        · (intro u _; go_simp)
        (try simp only [Act.put, List.setIfInBounds_toArray, List.set_cons_zero, List.set_cons_succ])
        refine L3.late_free 12 (v := .bool true) rfl (by kernel_rfl) (by kernel_rfl) (by kernel_rfl) (by kernel_rfl) (by kernel_rfl) (by kernel_rfl) (fun _ _ _ h => h) (Or.inl ⟨by rfl, ?_⟩) hHeld ?_
        · (intro u _; go_simp)
        (try simp only [Act.put, List.setIfInBounds_toArray, List.set_cons_zero, List.set_cons_succ])
        refine L3.late_take 13 (v := .agg #[.slice so sl sc]) rfl (by kernel_rfl) (List.Mem.tail _ (List.Mem.tail _ (List.Mem.head _))) (by kernel_rfl) (by kernel_rfl) (by kernel_rfl) (by kernel_rfl) (fun _ _ _ h => h) (Or.inl ⟨by rfl, ?_⟩) hHeld ?_
        · (intro u hu; (try dsimp only at hu); go_split_ands; go_simp)
        (try simp only [Act.put, List.setIfInBounds_toArray, List.set_cons_zero, List.set_cons_succ])
        refine L3.late_free 14 (v := .string x) rfl (by kernel_rfl) (by kernel_rfl) (by kernel_rfl) (by kernel_rfl) (by kernel_rfl) (by kernel_rfl) (fun _ _ _ h => h) (Or.inl ⟨by rfl, ?_⟩) hHeld ?_
        · (intro u _; go_simp)
        (try simp only [Act.put, List.setIfInBounds_toArray, List.set_cons_zero, List.set_cons_succ])
        refine L3.late_free 16 (v := .string x) rfl (by kernel_rfl) (by kernel_rfl) (by kernel_rfl) (by kernel_rfl) (by kernel_rfl) (by kernel_rfl) (fun _ _ _ h => h) (Or.inl ⟨by rfl, ?_⟩) hHeld ?_
        · (intro u _; go_simp)
        (try simp only [Act.put, List.setIfInBounds_toArray, List.set_cons_zero, List.set_cons_succ])
        refine L3.late_step 15 (by kernel_rfl) rfl (fun K hK => ?_)
        go_simp
        refine (sxWithoutS (hs.below B) (by omega) x).mono ?_
        rintro e u5 ⟨o5, l5, k5, rfl, hwout5, c5⟩
        have B := B.trans (c5.mono B.size)
        replace hwith3 := hwith3.below c5
        clear c5 hHeld
        have hHeld := KEEP _ B
        go_wp2_with fail
        refine hK.out _ _ (L3.AllL.kept hHeld) ?_
        clear hK K
        (try simp only [Act.put, List.setIfInBounds_toArray, List.set_cons_zero, List.set_cons_succ])
        refine L3.late_step 17 (by kernel_rfl) rfl (fun K hK => ?_)
        go_simp
        have CH := sxHasS hwout5 (by omega) x
        rw [has_withoutS] at CH
        refine CH.mono ?_
        rintro e u6 ⟨rfl, c6⟩
        clear CH
        have B := B.trans (c6.mono B.size)
        replace hwith3 := hwith3.below c6
        replace hwout5 := hwout5.below c6
        clear c6 hHeld
        have hHeld := KEEP _ B
        go_wp2_with fail
        refine hK.out _ _ (L3.AllL.kept hHeld) ?_
        clear hK K
        (try simp only [Act.put, List.setIfInBounds_toArray, List.set_cons_zero, List.set_cons_succ])
        refine L3.late_free 18 (v := .bool true) rfl (by kernel_rfl) (by kernel_rfl) (by kernel_rfl) (by kernel_rfl) (by kernel_rfl) (by kernel_rfl) (fun _ _ _ h => h) (Or.inl ⟨by rfl, ?_⟩) hHeld ?_
        · (intro u _; go_simp)
        (try simp only [Act.put, List.setIfInBounds_toArray, List.set_cons_zero, List.set_cons_succ])
        refine L3.late_free 19 (v := .bool true) rfl (by kernel_rfl) (by kernel_rfl) (by kernel_rfl) (by kernel_rfl) (by kernel_rfl) (by kernel_rfl) (fun _ _ _ h => h) (Or.inl ⟨by rfl, ?_⟩) hHeld ?_
        · (intro u _; go_simp)
        (try simp only [Act.put, List.setIfInBounds_toArray, List.set_cons_zero, List.set_cons_succ])
        refine L3.late_free 20 (v := .bool true) rfl (by kernel_rfl) (by kernel_rfl) (by kernel_rfl) (by kernel_rfl) (by kernel_rfl) (by kernel_rfl) (fun _ _ _ h => h) (Or.inl ⟨by rfl, ?_⟩) hHeld ?_
        · (intro u _; go_simp)
        (try simp only [Act.put, List.setIfInBounds_toArray, List.set_cons_zero, List.set_cons_succ])
        refine L3.late_take 21 (v := .agg #[.slice so sl sc]) rfl (by kernel_rfl) (List.Mem.tail _ (List.Mem.tail _ (List.Mem.tail _ (List.Mem.head _)))) (by kernel_rfl) (by kernel_rfl) (by kernel_rfl) (by kernel_rfl) (fun _ _ _ h => h) (Or.inl ⟨by rfl, ?_⟩) hHeld ?_
        · (intro u hu; (try dsimp only at hu); go_split_ands; go_simp)
        (try simp only [Act.put, List.setIfInBounds_toArray, List.set_cons_zero, List.set_cons_succ])
        refine L3.late_take 22 (v := .agg #[.slice so sl sc]) rfl (by kernel_rfl) (List.Mem.tail _ (List.Mem.tail _ (List.Mem.tail _ (List.Mem.tail _ (List.Mem.head _))))) (by kernel_rfl) (by kernel_rfl) (by kernel_rfl) (by kernel_rfl) (fun _ _ _ h => h) (Or.inl ⟨by rfl, ?_⟩) hHeld ?_
        · (intro u hu; (try dsimp only at hu); go_split_ands; go_simp)
        (try simp only [Act.put, List.setIfInBounds_toArray, List.set_cons_zero, List.set_cons_succ])
        refine L3.late_take 24 (v := .agg #[.slice so sl sc]) rfl (by kernel_rfl) (List.Mem.tail _ (List.Mem.tail _ (List.Mem.tail _ (List.Mem.tail _ (List.Mem.tail _ (List.Mem.head _)))))) (by kernel_rfl) (by kernel_rfl) (by kernel_rfl) (by kernel_rfl) (fun _ _ _ h => h) (Or.inl ⟨by rfl, ?_⟩) hHeld ?_
        · (intro u hu; (try dsimp only at hu); go_split_ands; go_simp)
        (try simp only [Act.put, List.setIfInBounds_toArray, List.set_cons_zero, List.set_cons_succ])
        refine L3.late_step 23 (by kernel_rfl) rfl (fun K hK => ?_)
        go_simp
        refine (sxMeetS (hs.below B) (hs.below B) (by omega) (by omega)).mono ?_
        rintro e u7 ⟨o7, l7, k7, rfl, hmeet7, c7⟩
        rw [meet_selfS] at hmeet7
        have B := B.trans (c7.mono B.size)
        replace hwith3 := hwith3.below c7
        replace hwout5 := hwout5.below c7
        clear c7 hHeld
        have hHeld := KEEP _ B
        go_wp2_with fail
        refine hK.out _ _ (L3.AllL.kept hHeld) ?_
        clear hK K
        (try simp only [Act.put, List.setIfInBounds_toArray, List.set_cons_zero, List.set_cons_succ])
        refine L3.late_step 25 (by kernel_rfl) rfl (fun K hK => ?_)
        go_simp
        have CH := sxSameS hmeet7 (hs.below B)
        rw [same_selfS] at CH
        refine CH.mono ?_
        rintro e u8 ⟨rfl, c8⟩
        clear CH
        have B := B.trans (c8.mono B.size)
        replace hwith3 := hwith3.below c8
        replace hwout5 := hwout5.below c8
        replace hmeet7 := hmeet7.below c8
        clear c8 hHeld
        have hHeld := KEEP _ B
        go_wp2_with fail
        refine hK.out _ _ (L3.AllL.kept hHeld) ?_
        clear hK K
        (try simp only [Act.put, List.setIfInBounds_toArray, List.set_cons_zero, List.set_cons_succ])
        refine L3.late_free 26 (v := .bool true) rfl (by kernel_rfl) (by kernel_rfl) (by kernel_rfl) (by kernel_rfl) (by kernel_rfl) (by kernel_rfl) (fun _ _ _ h => h) (Or.inl ⟨by rfl, ?_⟩) hHeld ?_
        · (intro u _; go_simp)
        (try simp only [Act.put, List.setIfInBounds_toArray, List.set_cons_zero, List.set_cons_succ])
        refine L3.late_step 27 (by kernel_rfl) rfl (fun K hK => ?_)
        go_simp
        refine hK.out _ _ (L3.AllL.kept hHeld) ?_
        clear hK K
        (try simp only [Act.put, List.setIfInBounds_toArray, List.set_cons_zero, List.set_cons_succ])
        refine L3.late_done (by kernel_rfl) ?_ _
        clear hHeld KEEP
        have HE : Hid (Below g w u8) := bw.trans (B.mono zw)
        clear B bw zw
        go_wp2
        go_ret
        exact ⟨rfl, HE.out⟩
end Go.Proofs.Ytknibmehbplpbaa
