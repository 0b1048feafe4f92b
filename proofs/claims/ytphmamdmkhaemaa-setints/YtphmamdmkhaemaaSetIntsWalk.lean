/-
  Proved here: SetInts's own walk.
-/
import Derived.Test.YtphmamdmkhaemaaSetSJ
import Derived.Deep.CutRange
namespace Go.Proofs.Ytphmamdmkhaemaa
open Go.Shelf Go.RowKit Go.Lib Go.Sort

set_option maxHeartbeats 32000000 in
set_option maxRecDepth 1000000 in
theorem setInts_top (v0 : Value) (L0 : List Int) (v1 : Value) (L1 : List Int) (x : Int) (w : World) (hv0 : RG (Value.int .i64) w v0 L0) (hv1 : RG (Value.int .i64) w v1 L1) :
    Calls Try.prog 4 #[v0, v1, .int .i64 x] w fun e w' => e = .returned (.bool true) ∧ Below w.heap.size w w' := by
  obtain ⟨g, hg⟩ : ∃ g, g = w.heap.size := ⟨_, rfl⟩
  have HG : Hid (g = w.heap.size) := hg
  rw [← hg]
  obtain ⟨a0, p0, rfl, hc0, hm0, -⟩ := id hv0
  obtain ⟨a1, p1, rfl, hc1, hm1, -⟩ := id hv1
  unfold maxLen at hm0 hm1
  obtain ⟨n0, hn0⟩ : ∃ n, L0.length = n := ⟨_, rfl⟩
  obtain ⟨n1, hn1⟩ : ∃ n, L1.length = n := ⟨_, rfl⟩
  rw [hn0] at hc0 hv0 ⊢
  rw [hn1] at hc1 hv1 ⊢
  have HN0 : Hid (L0.length = n0) := hn0
  have HN1 : Hid (L1.length = n1) := hn1
  have hXl := ofI_len L0
  have hYl := ofI_len L1
  rw [ofI_eq] at hXl hYl
  have rX := rise_ofR L0
  have rY := rise_ofR L1
  obtain ⟨X, hX⟩ : ∃ X, ofR L0 = X := ⟨_, rfl⟩
  obtain ⟨Y, hY⟩ : ∃ X, ofR L1 = X := ⟨_, rfl⟩
  rw [hX] at hXl rX
  rw [hY] at hYl rY
  have HOX : Hid (ofR L0 = X) := hX
  have HOY : Hid (ofR L1 = Y) := hY
  obtain ⟨m0, hm0'⟩ : ∃ n, X.length = n := ⟨_, rfl⟩
  obtain ⟨m1, hm1'⟩ : ∃ n, Y.length = n := ⟨_, rfl⟩
  rw [hm0', hn0] at hXl
  rw [hm1', hn1] at hYl
  have HX : Hid (X.length = m0) := hm0'
  have HY : Hid (Y.length = m1) := hm1'
  obtain ⟨nf, hnf⟩ : ∃ n, n = n0 + 20 := ⟨_, rfl⟩
  have HF : Hid ((lgI L0 20).length = nf) := by show _ = _; rw [lgI_len, hn0, hnf]
  obtain ⟨q3, hq3⟩ : ∃ b, decide (x ∈ X) = b := ⟨_, rfl⟩
  obtain ⟨q4, hq4⟩ : ∃ b, decide (x ∈ Y) = b := ⟨_, rfl⟩
  obtain ⟨q1, hq1⟩ : ∃ b, withinR X Y = b := ⟨_, rfl⟩
  obtain ⟨q2, hq2⟩ : ∃ b, decide (X = Y) = b := ⟨_, rfl⟩
  obtain ⟨l1, hl1⟩ : ∃ n, (minusR X Y).length = n := ⟨_, rfl⟩
  obtain ⟨l2, hl2⟩ : ∃ n, (minusR Y X).length = n := ⟨_, rfl⟩
  have hs := same_iff rX rY
  have hw1 := within_len X Y
  have hw2 := within_len Y X
  rw [hl1, hq1] at hw1
  rw [hl2] at hw2
  have el1 : ((l1 : Int) == 0) = q1 := by rw [hw1]; by_cases h : l1 = 0 <;> simp [h]
  have el1' : decide ((l1 : Int) = 0) = q1 := by rw [hw1]; by_cases h : l1 = 0 <;> simp [h]
  have HQ1 : Hid (withinR X Y = q1) := hq1
  have HQ2c : Hid (decide (X = Y) = q2) := hq2
  have HL1 : Hid ((minusR X Y).length = l1) := hl1
  have HL2 : Hid ((minusR Y X).length = l2) := hl2
  have HQ2 : Hid (q1 = false → q2 = false) := fun h => by
    rw [← hq2]
    refine decide_eq_false fun e => ?_
    have := hs.2 e
    unfold sameR at this
    rw [hq1, h] at this
    simp at this
  have HQ2b : Hid (q1 = true → ((l2 : Int) == 0) = q2) := fun h => by
    have e1 : sameR X Y = decide (l2 = 0) := by unfold sameR; rw [hq1, h, hw2, Bool.true_and]
    have e2 : sameR X Y = q2 := by
      rw [← hq2]
      rw [Bool.eq_iff_iff, hs]
      simp
    rw [← e2, e1]
    by_cases h : l2 = 0 <;> simp [h]
  have hnf2 : n0 + 20 = nf := hnf.symm
  clear hn0 hn1 hX hY hm0' hm1' hnf hq1 hq2 hl1 hl2 hs hw1 hw2 rX rY hg
  by_cases h0 : n0 > 300
  · have h0z : (n0 : Int) > 300 := by omega
    have h0d : decide ((n0 : Int) > 300) = true := decide_eq_true h0z
    go_enter Try.func4, Try.ntmps4
    go_wp2
    go_ret
    exact ⟨rfl, by rw [HG.out]; exact Below.refl _ _⟩
  have h0z : ¬ (n0 : Int) > 300 := by omega
  have h0d : decide ((n0 : Int) > 300) = false := decide_eq_false h0z
  by_cases h1 : n1 > 300
  · have h1z : (n1 : Int) > 300 := by omega
    have h1d : decide ((n1 : Int) > 300) = true := decide_eq_true h1z
    go_enter Try.func4, Try.ntmps4
    go_wp2
    go_ret
    exact ⟨rfl, by rw [HG.out]; exact Below.refl _ _⟩
  have h1z : ¬ (n1 : Int) > 300 := by omega
  have h1d : decide ((n1 : Int) > 300) = false := decide_eq_false h1z
  go_enter Try.func4, Try.ntmps4
  have bw := (Below.refl g w)
  have zw : g ≤ w.heap.size := Nat.le_of_eq HG.out
  have CC := rOf _ L0 _ hv0 (by rw [HN0.out]; omega)
  rw [HOX.out] at CC
  go_wp2_with fail
  refine CC.mono ?_
  rintro e w1 ⟨pp, rfl, o_pp, bq⟩
  clear CC
  replace hv0 := hv0.below (Nat.le_refl _) bq
  replace hv1 := hv1.below (Nat.le_refl _) bq
  replace bw := bw.trans (bq.mono zw)
  replace zw : g ≤ w1.heap.size := Nat.le_trans zw bq.size
  clear bq
  obtain ⟨ppo, ppc, e_pp, -⟩ := o_pp.sl
  rw [HX.out] at e_pp
  subst e_pp
  replace o_pp := o_pp.rg
  have CC := rOf _ L1 _ hv1 (by rw [HN1.out]; omega)
  rw [HOY.out] at CC
  go_wp2_with fail
  refine CC.mono ?_
  rintro e w2 ⟨qq, rfl, o_qq, bq⟩
  clear CC
  replace hv0 := hv0.below (Nat.le_refl _) bq
  replace hv1 := hv1.below (Nat.le_refl _) bq
  replace o_pp := o_pp.below (Nat.le_refl _) bq
  replace bw := bw.trans (bq.mono zw)
  replace zw : g ≤ w2.heap.size := Nat.le_trans zw bq.size
  clear bq
  obtain ⟨qqo, qqc, e_qq, -⟩ := o_qq.sl
  rw [HY.out] at e_qq
  subst e_qq
  replace o_qq := o_qq.rg
  have lt_v0_ff : Hid (0 < (L0).length → ∀ b, (Value.slice a0 n0 p0).ownBlock = some b → b < w2.heap.size) := hv0.lt
  have lt_v1_ff : Hid (0 < (L1).length → ∀ b, (Value.slice a1 n1 p1).ownBlock = some b → b < w2.heap.size) := hv1.lt
  have lt_pp_ff : Hid (0 < (X).length → ∀ b, (Value.slice ppo m0 ppc).ownBlock = some b → b < w2.heap.size) := o_pp.lt
  have lt_qq_ff : Hid (0 < (Y).length → ∀ b, (Value.slice qqo m1 qqc).ownBlock = some b → b < w2.heap.size) := o_qq.lt
  have zb_ff : Hid (g ≤ w2.heap.size) := zw
  have CC := long_any _ L0 _ hv0 (by rw [HN0.out]; omega)
  go_wp2_with fail
  refine CC.mono ?_
  rintro e w3 ⟨ff, rfl, o_ff, bq⟩
  clear CC
  have zB_ff : w2.heap.size ≤ w3.heap.size := bq.size
  replace hv0 := hv0.below (Nat.le_refl _) bq
  replace hv1 := hv1.below (Nat.le_refl _) bq
  replace o_pp := o_pp.below (Nat.le_refl _) bq
  replace o_qq := o_qq.below (Nat.le_refl _) bq
  replace bw := bw.trans (bq.mono zw)
  replace zw : g ≤ w3.heap.size := Nat.le_trans zw bq.size
  clear bq
  obtain ⟨ffo, ffc, e_ff, -⟩ := o_ff.sl
  rw [HF.out] at e_ff
  subst e_ff
  have at_ff : Hid (∀ g, (Value.slice ffo nf ffc).ownBlock = some g → w2.heap.size ≤ g ∧ g < w3.heap.size) := o_ff.lt
  obtain ⟨gf, hgf⟩ : ∃ gf, ffo = some ⟨gf, 0, none⟩ := by obtain ⟨_, _, e1, h1, -⟩ := o_ff.sl; cases e1; obtain ⟨gf, -, h2⟩ := h1 (by rw [HF.out]; omega); exact ⟨gf, h2⟩
  subst hgf
  have hfc : nf ≤ ffc ∧ ffc ≤ 9223372036854775807 := by obtain ⟨_, _, e1, -, h2, h3, -⟩ := o_ff.sl; cases e1; unfold maxLen at h3; rw [HF.out] at h2; exact ⟨h2, h3⟩
  have rcut : RG (Value.int .i64) w3 (.slice (some ⟨gf, 0, none⟩) n0 ffc) L0 := by have h := o_ff.rg.cut (m := n0) (by omega); rw [lgI_take L0 20 n0 HN0.out] at h; exact h
  have hcut := cutI (some ⟨gf, 0, none⟩) nf ffc n0 (by omega) hfc.1 hfc.2 (fun h => by simp at h)
  have gt_ss_ff : Hid (∀ g, (Value.slice (some ⟨gf, 0, none⟩) nf ffc).ownBlock = some g → g < w3.heap.size) := fun g hg => (o_ff.lt g hg).2
  have CC := siOfO rcut (k := 300) (by rw [HN0.out]; omega) (by omega)
  rw [HOX.out] at CC
  go_wp2_with fail
  refine CC.mono ?_
  rintro e w4 ⟨sso, ssl, ssc, rfl, s_ss, ow_ss, bq⟩
  clear CC
  have ge_ss : Hid (∀ b, (Value.slice sso ssl ssc).ownBlock = some b → w3.heap.size ≤ b) := ow_ss
  clear ow_ss
  replace hv0 := hv0.below (Nat.le_refl _) bq
  replace hv1 := hv1.below (Nat.le_refl _) bq
  replace o_pp := o_pp.below (Nat.le_refl _) bq
  replace o_qq := o_qq.below (Nat.le_refl _) bq
  replace o_ff := o_ff.below bq
  replace zB_ff : w2.heap.size ≤ w4.heap.size := Nat.le_trans zB_ff bq.size
  replace bw := bw.trans (bq.mono zw)
  replace zw : g ≤ w4.heap.size := Nat.le_trans zw bq.size
  clear bq
  obtain ⟨W5, hW5⟩ : ∃ u, u = w4.alloc (.cells #[.slice sso ssl ssc] 24) := ⟨_, rfl⟩
  obtain ⟨b_ss, hb_ss⟩ : ∃ s, s = w4.heap.size := ⟨_, rfl⟩
  have c_ss : SCell 24 W5 b_ss (.slice sso ssl ssc) := by rw [hW5, hb_ss]; exact SCell.new w4 rfl
  have bq : Below w4.heap.size w4 W5 := by rw [hW5]; exact (Below.refl _ _).alloc (Nat.le_refl _) _
  have HW5 : Hid (W5 = w4.alloc (.cells #[.slice sso ssl ssc] 24)) := hW5
  have HB_ss : Hid (b_ss = w4.heap.size) := hb_ss
  have gt_boxss_ff : Hid (∀ g, (Value.slice (some ⟨gf, 0, none⟩) nf ffc).ownBlock = some g → g < w4.heap.size) := fun g hg => (o_ff.lt g hg).2
  have ge_boxss : Hid (w4.heap.size ≤ b_ss) := by rw [hb_ss]; exact Nat.le_refl _
  clear hW5 hb_ss
  replace hv0 := hv0.below (Nat.le_refl _) bq
  replace hv1 := hv1.below (Nat.le_refl _) bq
  replace o_pp := o_pp.below (Nat.le_refl _) bq
  replace o_qq := o_qq.below (Nat.le_refl _) bq
  replace o_ff := o_ff.below bq
  replace s_ss := s_ss.below bq
  replace zB_ff : w2.heap.size ≤ W5.heap.size := Nat.le_trans zB_ff bq.size
  replace bw := bw.trans (bq.mono zw)
  replace zw : g ≤ W5.heap.size := Nat.le_trans zw bq.size
  clear bq
  clear rcut hcut
  go_upto_region 8 with fail
  rw [← HW5.out, ← HB_ss.out]
  clear HW5 HB_ss
  have gt_oo_ff : Hid (∀ g, (Value.slice (some ⟨gf, 0, none⟩) nf ffc).ownBlock = some g → g < W5.heap.size) := fun g hg => (o_ff.lt g hg).2
  have CC := siOfO hv1 (k := 300) (by rw [HN1.out]; omega) (by omega)
  rw [HOY.out] at CC
  go_wp2_with fail
  refine CC.mono ?_
  rintro e w6 ⟨ooo, ool, ooc, rfl, s_oo, ow_oo, bq⟩
  clear CC
  have ge_oo : Hid (∀ b, (Value.slice ooo ool ooc).ownBlock = some b → W5.heap.size ≤ b) := ow_oo
  clear ow_oo
  replace hv0 := hv0.below (Nat.le_refl _) bq
  replace hv1 := hv1.below (Nat.le_refl _) bq
  replace o_pp := o_pp.below (Nat.le_refl _) bq
  replace o_qq := o_qq.below (Nat.le_refl _) bq
  replace o_ff := o_ff.below bq
  replace s_ss := s_ss.below bq
  replace c_ss := c_ss.below bq
  replace zB_ff : w2.heap.size ≤ w6.heap.size := Nat.le_trans zB_ff bq.size
  replace bw := bw.trans (bq.mono zw)
  replace zw : g ≤ w6.heap.size := Nat.le_trans zw bq.size
  clear bq
  obtain ⟨W7, hW7⟩ : ∃ u, u = w6.alloc (.cells #[.slice ooo ool ooc] 24) := ⟨_, rfl⟩
  obtain ⟨b_oo, hb_oo⟩ : ∃ s, s = w6.heap.size := ⟨_, rfl⟩
  have c_oo : SCell 24 W7 b_oo (.slice ooo ool ooc) := by rw [hW7, hb_oo]; exact SCell.new w6 rfl
  have bq : Below w6.heap.size w6 W7 := by rw [hW7]; exact (Below.refl _ _).alloc (Nat.le_refl _) _
  have HW7 : Hid (W7 = w6.alloc (.cells #[.slice ooo ool ooc] 24)) := hW7
  have HB_oo : Hid (b_oo = w6.heap.size) := hb_oo
  have gt_boxoo_ff : Hid (∀ g, (Value.slice (some ⟨gf, 0, none⟩) nf ffc).ownBlock = some g → g < w6.heap.size) := fun g hg => (o_ff.lt g hg).2
  have ge_boxoo : Hid (w6.heap.size ≤ b_oo) := by rw [hb_oo]; exact Nat.le_refl _
  clear hW7 hb_oo
  replace hv0 := hv0.below (Nat.le_refl _) bq
  replace hv1 := hv1.below (Nat.le_refl _) bq
  replace o_pp := o_pp.below (Nat.le_refl _) bq
  replace o_qq := o_qq.below (Nat.le_refl _) bq
  replace o_ff := o_ff.below bq
  replace s_ss := s_ss.below bq
  replace c_ss := c_ss.below bq
  replace s_oo := s_oo.below bq
  replace zB_ff : w2.heap.size ≤ W7.heap.size := Nat.le_trans zB_ff bq.size
  replace bw := bw.trans (bq.mono zw)
  replace zw : g ≤ W7.heap.size := Nat.le_trans zw bq.size
  clear bq
  go_upto_region 9 with fail
  rw [← HW7.out, ← HB_oo.out]
  clear HW7 HB_oo
  have gt_lg_ff : Hid (∀ g, (Value.slice (some ⟨gf, 0, none⟩) nf ffc).ownBlock = some g → g < W7.heap.size) := fun g hg => (o_ff.lt g hg).2
  have CC := long_any _ L0 _ hv0 (by rw [HN0.out]; omega)
  go_wp2_with fail
  refine CC.mono ?_
  rintro e w8 ⟨lg, rfl, o_lg, bq⟩
  clear CC
  replace hv0 := hv0.below (Nat.le_refl _) bq
  replace hv1 := hv1.below (Nat.le_refl _) bq
  replace o_pp := o_pp.below (Nat.le_refl _) bq
  replace o_qq := o_qq.below (Nat.le_refl _) bq
  replace o_ff := o_ff.below bq
  replace s_ss := s_ss.below bq
  replace c_ss := c_ss.below bq
  replace s_oo := s_oo.below bq
  replace c_oo := c_oo.below bq
  replace zB_ff : w2.heap.size ≤ w8.heap.size := Nat.le_trans zB_ff bq.size
  replace bw := bw.trans (bq.mono zw)
  replace zw : g ≤ w8.heap.size := Nat.le_trans zw bq.size
  clear bq
  have CC := ints_yes o_ff.rg o_lg.rg (rfl)
  go_wp2_with fail
  refine CC.mono ?_
  rintro e w9 ⟨rfl, bq⟩
  clear CC
  replace hv0 := hv0.below (Nat.le_refl _) bq
  replace hv1 := hv1.below (Nat.le_refl _) bq
  replace o_pp := o_pp.below (Nat.le_refl _) bq
  replace o_qq := o_qq.below (Nat.le_refl _) bq
  replace o_ff := o_ff.below bq
  replace s_ss := s_ss.below bq
  replace c_ss := c_ss.below bq
  replace s_oo := s_oo.below bq
  replace c_oo := c_oo.below bq
  replace o_lg := o_lg.below bq
  replace zB_ff : w2.heap.size ≤ w9.heap.size := Nat.le_trans zB_ff bq.size
  replace bw := bw.trans (bq.mono zw)
  replace zw : g ≤ w9.heap.size := Nat.le_trans zw bq.size
  clear bq
  clear o_lg
  clear hv0
  clear hv1
  go_wp2
  go_loopg [13] nf (fun g1 v13 wr => ∃ i : Nat, v13 = .int .i64 i ∧ i ≤ nf ∧ nf - i ≤ g1 ∧ Hid (∃ C : List Int, C.length = nf ∧ OG (Value.int .i64) w2.heap.size 3 wr (.slice (some ⟨gf, 0, none⟩) nf ffc) C) ∧ Hid (w9.grownBy wr (some gf)))
  case atStart => exact ⟨0, rfl, Nat.zero_le _, by omega, ⟨_, HF.out, o_ff⟩, grownG_refl _ _⟩
  case round =>
    obtain ⟨i, rfl, hin, hg1, HO, HGR⟩ := hrel
    by_cases hlt : i < nf
    · have hltz : (i : Int) < (nf : Int) := by omega
      obtain ⟨C, hC, oC⟩ := HO.out
      obtain ⟨c1, f1⟩ := oC.cell (i := i) (List.getElem?_eq_getElem (by rw [hC]; exact hlt))
      obtain ⟨O2, G2⟩ := oC.set hC i (-5)
      have HO2 : Hid (∃ C : List Int, C.length = nf ∧ OG (Value.int .i64) w2.heap.size 3 (wr.setCell ⟨gf, i, none⟩ (.int .i64 (-5))) (.slice (some ⟨gf, 0, none⟩) nf ffc) C) := ⟨_, by rw [List.length_set]; exact hC, O2⟩
      have HG2 : Hid (w9.grownBy (wr.setCell ⟨gf, i, none⟩ (.int .i64 (-5))) (some gf)) := HGR.out.trans G2
      generalize C[i]'_ = y at c1
      clear O2 G2 HO HGR hC oC
      go_wp2
      go_roundg (nf - (i + 1))
      case measure => omega
      case rel => exact ⟨i + 1, by go_num, by omega, Nat.le_refl _, HO2, HG2⟩
    · have hltz : ¬ (i : Int) < (nf : Int) := by omega
      have hgl : w9.grownBy wr (Value.slice (some ⟨gf, 0, none⟩) nf ffc).ownBlock := HGR.out
      clear HO HGR hin hg1
      replace o_pp := o_pp.stay hgl (fun h0 bq gq hb hq => by have h1 := lt_pp_ff.out h0 bq hb; have h2 := (at_ff.out gq hq).1; omega)
      replace o_qq := o_qq.stay hgl (fun h0 bq gq hb hq => by have h1 := lt_qq_ff.out h0 bq hb; have h2 := (at_ff.out gq hq).1; omega)
      replace s_ss := s_ss.stay hgl (fun h0 bq gq hb hq => by have h1 := gt_ss_ff.out gq hq; have h2 := ge_ss.out bq hb; omega)
      replace c_ss := c_ss.stay hgl (fun gq hq => by have h1 := gt_boxss_ff.out gq hq; have h2 := ge_boxss.out; omega)
      replace s_oo := s_oo.stay hgl (fun h0 bq gq hb hq => by have h1 := gt_oo_ff.out gq hq; have h2 := ge_oo.out bq hb; omega)
      replace c_oo := c_oo.stay hgl (fun gq hq => by have h1 := gt_boxoo_ff.out gq hq; have h2 := ge_boxoo.out; omega)
      replace bw := below_row bw zw hgl (fun gq hq => Nat.le_trans zb_ff.out (at_ff.out gq hq).1)
      replace zw : g ≤ wr.heap.size := Nat.le_trans zw hgl.size
      clear hgl
      clear lt_v0_ff lt_v1_ff lt_pp_ff lt_qq_ff zb_ff zB_ff at_ff gt_ss_ff gt_boxss_ff gt_oo_ff gt_boxoo_ff gt_lg_ff
      have k_ss := c_ss.cell
      have lt_pp_fi : Hid (0 < (X).length → ∀ b, (Value.slice ppo m0 ppc).ownBlock = some b → b < wr.heap.size) := o_pp.lt
      have lt_qq_fi : Hid (0 < (Y).length → ∀ b, (Value.slice qqo m1 qqc).ownBlock = some b → b < wr.heap.size) := o_qq.lt
      have lt_ss_fi : Hid (0 < (X).length → ∀ b, (Value.slice sso ssl ssc).ownBlock = some b → b < wr.heap.size) := s_ss.rg.lt
      have lt_oo_fi : Hid (0 < (Y).length → ∀ b, (Value.slice ooo ool ooc).ownBlock = some b → b < wr.heap.size) := s_oo.rg.lt
      have lt_boxss_fi : Hid (b_ss < wr.heap.size) := c_ss.lt
      have lt_boxoo_fi : Hid (b_oo < wr.heap.size) := c_oo.lt
      have zb_fi : Hid (g ≤ wr.heap.size) := zw
      have CC := siList s_ss (by omega)
      go_wp2_with fail
      refine CC.mono ?_
      rintro e w10 ⟨fi, rfl, o_fi, bq⟩
      clear CC
      have zB_fi : wr.heap.size ≤ w10.heap.size := bq.size
      replace o_pp := o_pp.below (Nat.le_refl _) bq
      replace o_qq := o_qq.below (Nat.le_refl _) bq
      replace s_ss := s_ss.below bq
      replace c_ss := c_ss.below bq
      replace s_oo := s_oo.below bq
      replace c_oo := c_oo.below bq
      replace bw := bw.trans (bq.mono zw)
      replace zw : g ≤ w10.heap.size := Nat.le_trans zw bq.size
      clear bq
      have at_fi : Hid (∀ g, (fi).ownBlock = some g → wr.heap.size ≤ g ∧ g < w10.heap.size) := o_fi.lt
      clear k_ss
      have k_ss := c_ss.cell
      have gt_se_fi : Hid (∀ g, (fi).ownBlock = some g → g < w10.heap.size) := fun g hg => (o_fi.lt g hg).2
      have CC := siList s_ss (by omega)
      go_wp2_with fail
      refine CC.mono ?_
      rintro e w11 ⟨se, rfl, o_se, bq⟩
      clear CC
      replace o_pp := o_pp.below (Nat.le_refl _) bq
      replace o_qq := o_qq.below (Nat.le_refl _) bq
      replace s_ss := s_ss.below bq
      replace c_ss := c_ss.below bq
      replace s_oo := s_oo.below bq
      replace c_oo := c_oo.below bq
      replace o_fi := o_fi.below bq
      replace zB_fi : wr.heap.size ≤ w11.heap.size := Nat.le_trans zB_fi bq.size
      replace bw := bw.trans (bq.mono zw)
      replace zw : g ≤ w11.heap.size := Nat.le_trans zw bq.size
      clear bq
      clear k_ss
      have CC := ints_yes o_fi.rg o_pp (rfl)
      go_wp2_with fail
      refine CC.mono ?_
      rintro e w12 ⟨rfl, bq⟩
      clear CC
      replace o_pp := o_pp.below (Nat.le_refl _) bq
      replace o_qq := o_qq.below (Nat.le_refl _) bq
      replace s_ss := s_ss.below bq
      replace c_ss := c_ss.below bq
      replace s_oo := s_oo.below bq
      replace c_oo := c_oo.below bq
      replace o_fi := o_fi.below bq
      replace o_se := o_se.below bq
      replace zB_fi : wr.heap.size ≤ w12.heap.size := Nat.le_trans zB_fi bq.size
      replace bw := bw.trans (bq.mono zw)
      replace zw : g ≤ w12.heap.size := Nat.le_trans zw bq.size
      clear bq
      have CC := ints_yes o_se.rg o_pp (rfl)
      go_wp2_with fail
      refine CC.mono ?_
      rintro e w13 ⟨rfl, bq⟩
      clear CC
      replace o_pp := o_pp.below (Nat.le_refl _) bq
      replace o_qq := o_qq.below (Nat.le_refl _) bq
      replace s_ss := s_ss.below bq
      replace c_ss := c_ss.below bq
      replace s_oo := s_oo.below bq
      replace c_oo := c_oo.below bq
      replace o_fi := o_fi.below bq
      replace o_se := o_se.below bq
      replace zB_fi : wr.heap.size ≤ w13.heap.size := Nat.le_trans zB_fi bq.size
      replace bw := bw.trans (bq.mono zw)
      replace zw : g ≤ w13.heap.size := Nat.le_trans zw bq.size
      clear bq
      have CC := spoilt_any _ _ X (-1) _ o_fi zB_fi (by have := HX.out; omega)
      go_wp2_with fail
      refine CC.mono ?_
      rintro e w14 ⟨rfl, hgq⟩
      clear CC
      replace o_pp := o_pp.stay hgq (fun h0 bq gq hb hq => by have h1 := lt_pp_fi.out h0 bq hb; have h2 := (at_fi.out gq hq).1; omega)
      replace o_qq := o_qq.stay hgq (fun h0 bq gq hb hq => by have h1 := lt_qq_fi.out h0 bq hb; have h2 := (at_fi.out gq hq).1; omega)
      replace s_ss := s_ss.stay hgq (fun h0 bq gq hb hq => by have h1 := lt_ss_fi.out h0 bq hb; have h2 := (at_fi.out gq hq).1; omega)
      replace c_ss := c_ss.stay hgq (fun gq hq => by have h1 := lt_boxss_fi.out; have h2 := (at_fi.out gq hq).1; omega)
      replace s_oo := s_oo.stay hgq (fun h0 bq gq hb hq => by have h1 := lt_oo_fi.out h0 bq hb; have h2 := (at_fi.out gq hq).1; omega)
      replace c_oo := c_oo.stay hgq (fun gq hq => by have h1 := lt_boxoo_fi.out; have h2 := (at_fi.out gq hq).1; omega)
      replace o_se := o_se.stay hgq (fun bq gq hb hq => by have h1 := gt_se_fi.out gq hq; have h2 := (o_se.lt bq hb).1; omega)
      replace bw := below_row bw zw hgq (fun gq hq => Nat.le_trans zb_fi.out (at_fi.out gq hq).1)
      replace zw : g ≤ w14.heap.size := Nat.le_trans zw hgq.size
      clear hgq
      clear lt_pp_fi lt_qq_fi lt_ss_fi lt_oo_fi lt_boxss_fi lt_boxoo_fi zb_fi zB_fi at_fi gt_se_fi
      have CC := ints_yes o_se.rg o_pp (rfl)
      go_wp2_with fail
      refine CC.mono ?_
      rintro e w15 ⟨rfl, bq⟩
      clear CC
      replace o_pp := o_pp.below (Nat.le_refl _) bq
      replace o_qq := o_qq.below (Nat.le_refl _) bq
      replace s_ss := s_ss.below bq
      replace c_ss := c_ss.below bq
      replace s_oo := s_oo.below bq
      replace c_oo := c_oo.below bq
      replace o_se := o_se.below bq
      replace bw := bw.trans (bq.mono zw)
      replace zw : g ≤ w15.heap.size := Nat.le_trans zw bq.size
      clear bq
      clear o_se
      have k_ss := c_ss.cell
      have CC := siList s_ss (by omega)
      go_wp2_with fail
      refine CC.mono ?_
      rintro e w16 ⟨s3, rfl, o_s3, bq⟩
      clear CC
      replace o_pp := o_pp.below (Nat.le_refl _) bq
      replace o_qq := o_qq.below (Nat.le_refl _) bq
      replace s_ss := s_ss.below bq
      replace c_ss := c_ss.below bq
      replace s_oo := s_oo.below bq
      replace c_oo := c_oo.below bq
      replace bw := bw.trans (bq.mono zw)
      replace zw : g ≤ w16.heap.size := Nat.le_trans zw bq.size
      clear bq
      clear k_ss
      have CC := ints_yes o_s3.rg o_pp (rfl)
      go_wp2_with fail
      refine CC.mono ?_
      rintro e w17 ⟨rfl, bq⟩
      clear CC
      replace o_pp := o_pp.below (Nat.le_refl _) bq
      replace o_qq := o_qq.below (Nat.le_refl _) bq
      replace s_ss := s_ss.below bq
      replace c_ss := c_ss.below bq
      replace s_oo := s_oo.below bq
      replace c_oo := c_oo.below bq
      replace o_s3 := o_s3.below bq
      replace bw := bw.trans (bq.mono zw)
      replace zw : g ≤ w17.heap.size := Nat.le_trans zw bq.size
      clear bq
      clear o_s3
      have k_ss := c_ss.cell
      have CC := siLen s_ss m0 HX.out
      go_wp2_with fail
      refine CC.mono ?_
      rintro e w18 ⟨rfl, bq⟩
      clear CC
      replace o_pp := o_pp.below (Nat.le_refl _) bq
      replace o_qq := o_qq.below (Nat.le_refl _) bq
      replace s_ss := s_ss.below bq
      replace c_ss := c_ss.below bq
      replace s_oo := s_oo.below bq
      replace c_oo := c_oo.below bq
      replace bw := bw.trans (bq.mono zw)
      replace zw : g ≤ w18.heap.size := Nat.le_trans zw bq.size
      clear bq
      clear k_ss
      have k_ss := c_ss.cell
      have CC := siHas s_ss x (by omega) q3 hq3
      go_wp2_with fail
      refine CC.mono ?_
      rintro e w19 ⟨rfl, bq⟩
      clear CC
      replace o_pp := o_pp.below (Nat.le_refl _) bq
      replace o_qq := o_qq.below (Nat.le_refl _) bq
      replace s_ss := s_ss.below bq
      replace c_ss := c_ss.below bq
      replace s_oo := s_oo.below bq
      replace c_oo := c_oo.below bq
      replace bw := bw.trans (bq.mono zw)
      replace zw : g ≤ w19.heap.size := Nat.le_trans zw bq.size
      clear bq
      clear k_ss
      have CC := rHas_b o_pp x q3 hq3
      go_wp2_with fail
      refine CC.mono ?_
      rintro e w20 ⟨rfl, bq⟩
      clear CC
      replace o_pp := o_pp.below (Nat.le_refl _) bq
      replace o_qq := o_qq.below (Nat.le_refl _) bq
      replace s_ss := s_ss.below bq
      replace c_ss := c_ss.below bq
      replace s_oo := s_oo.below bq
      replace c_oo := c_oo.below bq
      replace bw := bw.trans (bq.mono zw)
      replace zw : g ≤ w20.heap.size := Nat.le_trans zw bq.size
      clear bq
      have k_oo := c_oo.cell
      have CC := siHas s_oo x (by omega) q4 hq4
      go_wp2_with fail
      refine CC.mono ?_
      rintro e w21 ⟨rfl, bq⟩
      clear CC
      replace o_pp := o_pp.below (Nat.le_refl _) bq
      replace o_qq := o_qq.below (Nat.le_refl _) bq
      replace s_ss := s_ss.below bq
      replace c_ss := c_ss.below bq
      replace s_oo := s_oo.below bq
      replace c_oo := c_oo.below bq
      replace bw := bw.trans (bq.mono zw)
      replace zw : g ≤ w21.heap.size := Nat.le_trans zw bq.size
      clear bq
      clear k_oo
      have CC := rHas_b o_qq x q4 hq4
      go_wp2_with fail
      refine CC.mono ?_
      rintro e w22 ⟨rfl, bq⟩
      clear CC
      replace o_pp := o_pp.below (Nat.le_refl _) bq
      replace o_qq := o_qq.below (Nat.le_refl _) bq
      replace s_ss := s_ss.below bq
      replace c_ss := c_ss.below bq
      replace s_oo := s_oo.below bq
      replace c_oo := c_oo.below bq
      replace bw := bw.trans (bq.mono zw)
      replace zw : g ≤ w22.heap.size := Nat.le_trans zw bq.size
      clear bq
      have k_ss := c_ss.cell
      have k_oo := c_oo.cell
      have CC := siWith s_ss x (by omega)
      go_wp2_with fail
      refine CC.mono ?_
      rintro e w23 ⟨wio, wil, wic, rfl, s_wi, bq⟩
      clear CC
      replace o_pp := o_pp.below (Nat.le_refl _) bq
      replace o_qq := o_qq.below (Nat.le_refl _) bq
      replace s_ss := s_ss.below bq
      replace c_ss := c_ss.below bq
      replace s_oo := s_oo.below bq
      replace c_oo := c_oo.below bq
      replace bw := bw.trans (bq.mono zw)
      replace zw : g ≤ w23.heap.size := Nat.le_trans zw bq.size
      clear bq
      obtain ⟨W24, hW24⟩ : ∃ u, u = w23.alloc (.cells #[.slice wio wil wic] 24) := ⟨_, rfl⟩
      obtain ⟨b_wi, hb_wi⟩ : ∃ s, s = w23.heap.size := ⟨_, rfl⟩
      have c_wi : SCell 24 W24 b_wi (.slice wio wil wic) := by rw [hW24, hb_wi]; exact SCell.new w23 rfl
      have bq : Below w23.heap.size w23 W24 := by rw [hW24]; exact (Below.refl _ _).alloc (Nat.le_refl _) _
      have HW24 : Hid (W24 = w23.alloc (.cells #[.slice wio wil wic] 24)) := hW24
      have HB_wi : Hid (b_wi = w23.heap.size) := hb_wi
      have ge_boxwi : Hid (w23.heap.size ≤ b_wi) := by rw [hb_wi]; exact Nat.le_refl _
      clear hW24 hb_wi
      replace o_pp := o_pp.below (Nat.le_refl _) bq
      replace o_qq := o_qq.below (Nat.le_refl _) bq
      replace s_ss := s_ss.below bq
      replace c_ss := c_ss.below bq
      replace s_oo := s_oo.below bq
      replace c_oo := c_oo.below bq
      replace s_wi := s_wi.below bq
      replace bw := bw.trans (bq.mono zw)
      replace zw : g ≤ W24.heap.size := Nat.le_trans zw bq.size
      clear bq
      go_upto_region 22 with fail
      rw [← HW24.out, ← HB_wi.out]
      clear HW24 HB_wi
      clear k_ss
      clear k_oo
      have k_ss := c_ss.cell
      have k_oo := c_oo.cell
      have CC := siWithout s_ss x (by omega)
      go_wp2_with fail
      refine CC.mono ?_
      rintro e w25 ⟨woo, wol, woc, rfl, s_wo, bq⟩
      clear CC
      replace o_pp := o_pp.below (Nat.le_refl _) bq
      replace o_qq := o_qq.below (Nat.le_refl _) bq
      replace s_ss := s_ss.below bq
      replace c_ss := c_ss.below bq
      replace s_oo := s_oo.below bq
      replace c_oo := c_oo.below bq
      replace s_wi := s_wi.below bq
      replace c_wi := c_wi.below bq
      replace bw := bw.trans (bq.mono zw)
      replace zw : g ≤ w25.heap.size := Nat.le_trans zw bq.size
      clear bq
      obtain ⟨W26, hW26⟩ : ∃ u, u = w25.alloc (.cells #[.slice woo wol woc] 24) := ⟨_, rfl⟩
      obtain ⟨b_wo, hb_wo⟩ : ∃ s, s = w25.heap.size := ⟨_, rfl⟩
      have c_wo : SCell 24 W26 b_wo (.slice woo wol woc) := by rw [hW26, hb_wo]; exact SCell.new w25 rfl
      have bq : Below w25.heap.size w25 W26 := by rw [hW26]; exact (Below.refl _ _).alloc (Nat.le_refl _) _
      have HW26 : Hid (W26 = w25.alloc (.cells #[.slice woo wol woc] 24)) := hW26
      have HB_wo : Hid (b_wo = w25.heap.size) := hb_wo
      have ge_boxwo : Hid (w25.heap.size ≤ b_wo) := by rw [hb_wo]; exact Nat.le_refl _
      clear hW26 hb_wo
      replace o_pp := o_pp.below (Nat.le_refl _) bq
      replace o_qq := o_qq.below (Nat.le_refl _) bq
      replace s_ss := s_ss.below bq
      replace c_ss := c_ss.below bq
      replace s_oo := s_oo.below bq
      replace c_oo := c_oo.below bq
      replace s_wi := s_wi.below bq
      replace c_wi := c_wi.below bq
      replace s_wo := s_wo.below bq
      replace bw := bw.trans (bq.mono zw)
      replace zw : g ≤ W26.heap.size := Nat.le_trans zw bq.size
      clear bq
      go_upto_region 23 with fail
      rw [← HW26.out, ← HB_wo.out]
      clear HW26 HB_wo
      clear k_ss
      clear k_oo
      have k_ss := c_ss.cell
      have k_oo := c_oo.cell
      have CC := siJoin s_ss s_oo (by omega) (by omega)
      go_wp2_with fail
      refine CC.mono ?_
      rintro e w27 ⟨joo, jol, joc, rfl, s_jo, bq⟩
      clear CC
      replace o_pp := o_pp.below (Nat.le_refl _) bq
      replace o_qq := o_qq.below (Nat.le_refl _) bq
      replace s_ss := s_ss.below bq
      replace c_ss := c_ss.below bq
      replace s_oo := s_oo.below bq
      replace c_oo := c_oo.below bq
      replace s_wi := s_wi.below bq
      replace c_wi := c_wi.below bq
      replace s_wo := s_wo.below bq
      replace c_wo := c_wo.below bq
      replace bw := bw.trans (bq.mono zw)
      replace zw : g ≤ w27.heap.size := Nat.le_trans zw bq.size
      clear bq
      obtain ⟨W28, hW28⟩ : ∃ u, u = w27.alloc (.cells #[.slice joo jol joc] 24) := ⟨_, rfl⟩
      obtain ⟨b_jo, hb_jo⟩ : ∃ s, s = w27.heap.size := ⟨_, rfl⟩
      have c_jo : SCell 24 W28 b_jo (.slice joo jol joc) := by rw [hW28, hb_jo]; exact SCell.new w27 rfl
      have bq : Below w27.heap.size w27 W28 := by rw [hW28]; exact (Below.refl _ _).alloc (Nat.le_refl _) _
      have HW28 : Hid (W28 = w27.alloc (.cells #[.slice joo jol joc] 24)) := hW28
      have HB_jo : Hid (b_jo = w27.heap.size) := hb_jo
      have ge_boxjo : Hid (w27.heap.size ≤ b_jo) := by rw [hb_jo]; exact Nat.le_refl _
      clear hW28 hb_jo
      replace o_pp := o_pp.below (Nat.le_refl _) bq
      replace o_qq := o_qq.below (Nat.le_refl _) bq
      replace s_ss := s_ss.below bq
      replace c_ss := c_ss.below bq
      replace s_oo := s_oo.below bq
      replace c_oo := c_oo.below bq
      replace s_wi := s_wi.below bq
      replace c_wi := c_wi.below bq
      replace s_wo := s_wo.below bq
      replace c_wo := c_wo.below bq
      replace s_jo := s_jo.below bq
      replace bw := bw.trans (bq.mono zw)
      replace zw : g ≤ W28.heap.size := Nat.le_trans zw bq.size
      clear bq
      go_upto_region 24 with fail
      rw [← HW28.out, ← HB_jo.out]
      clear HW28 HB_jo
      clear k_ss
      clear k_oo
      have k_ss := c_ss.cell
      have k_oo := c_oo.cell
      have CC := siMeet s_ss s_oo (by omega) (by omega)
      go_wp2_with fail
      refine CC.mono ?_
      rintro e w29 ⟨meo, mel, mec, rfl, s_me, bq⟩
      clear CC
      replace o_pp := o_pp.below (Nat.le_refl _) bq
      replace o_qq := o_qq.below (Nat.le_refl _) bq
      replace s_ss := s_ss.below bq
      replace c_ss := c_ss.below bq
      replace s_oo := s_oo.below bq
      replace c_oo := c_oo.below bq
      replace s_wi := s_wi.below bq
      replace c_wi := c_wi.below bq
      replace s_wo := s_wo.below bq
      replace c_wo := c_wo.below bq
      replace s_jo := s_jo.below bq
      replace c_jo := c_jo.below bq
      replace bw := bw.trans (bq.mono zw)
      replace zw : g ≤ w29.heap.size := Nat.le_trans zw bq.size
      clear bq
      obtain ⟨W30, hW30⟩ : ∃ u, u = w29.alloc (.cells #[.slice meo mel mec] 24) := ⟨_, rfl⟩
      obtain ⟨b_me, hb_me⟩ : ∃ s, s = w29.heap.size := ⟨_, rfl⟩
      have c_me : SCell 24 W30 b_me (.slice meo mel mec) := by rw [hW30, hb_me]; exact SCell.new w29 rfl
      have bq : Below w29.heap.size w29 W30 := by rw [hW30]; exact (Below.refl _ _).alloc (Nat.le_refl _) _
      have HW30 : Hid (W30 = w29.alloc (.cells #[.slice meo mel mec] 24)) := hW30
      have HB_me : Hid (b_me = w29.heap.size) := hb_me
      have ge_boxme : Hid (w29.heap.size ≤ b_me) := by rw [hb_me]; exact Nat.le_refl _
      clear hW30 hb_me
      replace o_pp := o_pp.below (Nat.le_refl _) bq
      replace o_qq := o_qq.below (Nat.le_refl _) bq
      replace s_ss := s_ss.below bq
      replace c_ss := c_ss.below bq
      replace s_oo := s_oo.below bq
      replace c_oo := c_oo.below bq
      replace s_wi := s_wi.below bq
      replace c_wi := c_wi.below bq
      replace s_wo := s_wo.below bq
      replace c_wo := c_wo.below bq
      replace s_jo := s_jo.below bq
      replace c_jo := c_jo.below bq
      replace s_me := s_me.below bq
      replace bw := bw.trans (bq.mono zw)
      replace zw : g ≤ W30.heap.size := Nat.le_trans zw bq.size
      clear bq
      go_upto_region 25 with fail
      rw [← HW30.out, ← HB_me.out]
      clear HW30 HB_me
      clear k_ss
      clear k_oo
      have k_ss := c_ss.cell
      have k_oo := c_oo.cell
      have CC := siMinus s_ss s_oo (by omega) (by omega)
      go_wp2_with fail
      refine CC.mono ?_
      rintro e w31 ⟨mio, mil, mic, rfl, s_mi, bq⟩
      clear CC
      replace o_pp := o_pp.below (Nat.le_refl _) bq
      replace o_qq := o_qq.below (Nat.le_refl _) bq
      replace s_ss := s_ss.below bq
      replace c_ss := c_ss.below bq
      replace s_oo := s_oo.below bq
      replace c_oo := c_oo.below bq
      replace s_wi := s_wi.below bq
      replace c_wi := c_wi.below bq
      replace s_wo := s_wo.below bq
      replace c_wo := c_wo.below bq
      replace s_jo := s_jo.below bq
      replace c_jo := c_jo.below bq
      replace s_me := s_me.below bq
      replace c_me := c_me.below bq
      replace bw := bw.trans (bq.mono zw)
      replace zw : g ≤ w31.heap.size := Nat.le_trans zw bq.size
      clear bq
      obtain ⟨W32, hW32⟩ : ∃ u, u = w31.alloc (.cells #[.slice mio mil mic] 24) := ⟨_, rfl⟩
      obtain ⟨b_mi, hb_mi⟩ : ∃ s, s = w31.heap.size := ⟨_, rfl⟩
      have c_mi : SCell 24 W32 b_mi (.slice mio mil mic) := by rw [hW32, hb_mi]; exact SCell.new w31 rfl
      have bq : Below w31.heap.size w31 W32 := by rw [hW32]; exact (Below.refl _ _).alloc (Nat.le_refl _) _
      have HW32 : Hid (W32 = w31.alloc (.cells #[.slice mio mil mic] 24)) := hW32
      have HB_mi : Hid (b_mi = w31.heap.size) := hb_mi
      have ge_boxmi : Hid (w31.heap.size ≤ b_mi) := by rw [hb_mi]; exact Nat.le_refl _
      clear hW32 hb_mi
      replace o_pp := o_pp.below (Nat.le_refl _) bq
      replace o_qq := o_qq.below (Nat.le_refl _) bq
      replace s_ss := s_ss.below bq
      replace c_ss := c_ss.below bq
      replace s_oo := s_oo.below bq
      replace c_oo := c_oo.below bq
      replace s_wi := s_wi.below bq
      replace c_wi := c_wi.below bq
      replace s_wo := s_wo.below bq
      replace c_wo := c_wo.below bq
      replace s_jo := s_jo.below bq
      replace c_jo := c_jo.below bq
      replace s_me := s_me.below bq
      replace c_me := c_me.below bq
      replace s_mi := s_mi.below bq
      replace bw := bw.trans (bq.mono zw)
      replace zw : g ≤ W32.heap.size := Nat.le_trans zw bq.size
      clear bq
      go_upto_region 26 with fail
      rw [← HW32.out, ← HB_mi.out]
      clear HW32 HB_mi
      clear k_ss
      clear k_oo
      have k_wi := c_wi.cell
      have CC := siList s_wi (by omega)
      go_wp2_with fail
      refine CC.mono ?_
      rintro e w33 ⟨t1, rfl, o_t1, bq⟩
      clear CC
      replace o_pp := o_pp.below (Nat.le_refl _) bq
      replace o_qq := o_qq.below (Nat.le_refl _) bq
      replace s_ss := s_ss.below bq
      replace c_ss := c_ss.below bq
      replace s_oo := s_oo.below bq
      replace c_oo := c_oo.below bq
      replace s_wi := s_wi.below bq
      replace c_wi := c_wi.below bq
      replace s_wo := s_wo.below bq
      replace c_wo := c_wo.below bq
      replace s_jo := s_jo.below bq
      replace c_jo := c_jo.below bq
      replace s_me := s_me.below bq
      replace c_me := c_me.below bq
      replace s_mi := s_mi.below bq
      replace c_mi := c_mi.below bq
      replace bw := bw.trans (bq.mono zw)
      replace zw : g ≤ w33.heap.size := Nat.le_trans zw bq.size
      clear bq
      clear k_wi
      have CC := rWith _ X x _ o_pp (by have := HX.out; omega)
      go_wp2_with fail
      refine CC.mono ?_
      rintro e w34 ⟨t2, rfl, o_t2, bq⟩
      clear CC
      replace o_pp := o_pp.below (Nat.le_refl _) bq
      replace o_qq := o_qq.below (Nat.le_refl _) bq
      replace s_ss := s_ss.below bq
      replace c_ss := c_ss.below bq
      replace s_oo := s_oo.below bq
      replace c_oo := c_oo.below bq
      replace s_wi := s_wi.below bq
      replace c_wi := c_wi.below bq
      replace s_wo := s_wo.below bq
      replace c_wo := c_wo.below bq
      replace s_jo := s_jo.below bq
      replace c_jo := c_jo.below bq
      replace s_me := s_me.below bq
      replace c_me := c_me.below bq
      replace s_mi := s_mi.below bq
      replace c_mi := c_mi.below bq
      replace o_t1 := o_t1.below bq
      replace bw := bw.trans (bq.mono zw)
      replace zw : g ≤ w34.heap.size := Nat.le_trans zw bq.size
      clear bq
      have CC := ints_yes o_t1.rg o_t2.rg (rfl)
      go_wp2_with fail
      refine CC.mono ?_
      rintro e w35 ⟨rfl, bq⟩
      clear CC
      replace o_pp := o_pp.below (Nat.le_refl _) bq
      replace o_qq := o_qq.below (Nat.le_refl _) bq
      replace s_ss := s_ss.below bq
      replace c_ss := c_ss.below bq
      replace s_oo := s_oo.below bq
      replace c_oo := c_oo.below bq
      replace s_wi := s_wi.below bq
      replace c_wi := c_wi.below bq
      replace s_wo := s_wo.below bq
      replace c_wo := c_wo.below bq
      replace s_jo := s_jo.below bq
      replace c_jo := c_jo.below bq
      replace s_me := s_me.below bq
      replace c_me := c_me.below bq
      replace s_mi := s_mi.below bq
      replace c_mi := c_mi.below bq
      replace o_t1 := o_t1.below bq
      replace o_t2 := o_t2.below bq
      replace bw := bw.trans (bq.mono zw)
      replace zw : g ≤ w35.heap.size := Nat.le_trans zw bq.size
      clear bq
      clear o_t1
      clear o_t2
      have k_wo := c_wo.cell
      have CC := siList s_wo (by omega)
      go_wp2_with fail
      refine CC.mono ?_
      rintro e w36 ⟨t3, rfl, o_t3, bq⟩
      clear CC
      replace o_pp := o_pp.below (Nat.le_refl _) bq
      replace o_qq := o_qq.below (Nat.le_refl _) bq
      replace s_ss := s_ss.below bq
      replace c_ss := c_ss.below bq
      replace s_oo := s_oo.below bq
      replace c_oo := c_oo.below bq
      replace s_wi := s_wi.below bq
      replace c_wi := c_wi.below bq
      replace s_wo := s_wo.below bq
      replace c_wo := c_wo.below bq
      replace s_jo := s_jo.below bq
      replace c_jo := c_jo.below bq
      replace s_me := s_me.below bq
      replace c_me := c_me.below bq
      replace s_mi := s_mi.below bq
      replace c_mi := c_mi.below bq
      replace bw := bw.trans (bq.mono zw)
      replace zw : g ≤ w36.heap.size := Nat.le_trans zw bq.size
      clear bq
      clear k_wo
      have CC := rWith _ [] x w36 (RG.nil _) (by simp)
      go_wp2_with fail
      refine CC.mono ?_
      rintro e w37 ⟨t4, rfl, o_t4, bq⟩
      clear CC
      replace o_pp := o_pp.below (Nat.le_refl _) bq
      replace o_qq := o_qq.below (Nat.le_refl _) bq
      replace s_ss := s_ss.below bq
      replace c_ss := c_ss.below bq
      replace s_oo := s_oo.below bq
      replace c_oo := c_oo.below bq
      replace s_wi := s_wi.below bq
      replace c_wi := c_wi.below bq
      replace s_wo := s_wo.below bq
      replace c_wo := c_wo.below bq
      replace s_jo := s_jo.below bq
      replace c_jo := c_jo.below bq
      replace s_me := s_me.below bq
      replace c_me := c_me.below bq
      replace s_mi := s_mi.below bq
      replace c_mi := c_mi.below bq
      replace o_t3 := o_t3.below bq
      replace bw := bw.trans (bq.mono zw)
      replace zw : g ≤ w37.heap.size := Nat.le_trans zw bq.size
      clear bq
      have CC := rSome _ X _ [x] false _ o_pp o_t4.rg (by have := HX.out; omega)
      go_wp2_with fail
      refine CC.mono ?_
      rintro e w38 ⟨t5, rfl, o_t5, bq⟩
      clear CC
      replace o_pp := o_pp.below (Nat.le_refl _) bq
      replace o_qq := o_qq.below (Nat.le_refl _) bq
      replace s_ss := s_ss.below bq
      replace c_ss := c_ss.below bq
      replace s_oo := s_oo.below bq
      replace c_oo := c_oo.below bq
      replace s_wi := s_wi.below bq
      replace c_wi := c_wi.below bq
      replace s_wo := s_wo.below bq
      replace c_wo := c_wo.below bq
      replace s_jo := s_jo.below bq
      replace c_jo := c_jo.below bq
      replace s_me := s_me.below bq
      replace c_me := c_me.below bq
      replace s_mi := s_mi.below bq
      replace c_mi := c_mi.below bq
      replace o_t3 := o_t3.below bq
      replace o_t4 := o_t4.below bq
      replace bw := bw.trans (bq.mono zw)
      replace zw : g ≤ w38.heap.size := Nat.le_trans zw bq.size
      clear bq
      have CC := ints_yes o_t3.rg o_t5.rg (rfl)
      go_wp2_with fail
      refine CC.mono ?_
      rintro e w39 ⟨rfl, bq⟩
      clear CC
      replace o_pp := o_pp.below (Nat.le_refl _) bq
      replace o_qq := o_qq.below (Nat.le_refl _) bq
      replace s_ss := s_ss.below bq
      replace c_ss := c_ss.below bq
      replace s_oo := s_oo.below bq
      replace c_oo := c_oo.below bq
      replace s_wi := s_wi.below bq
      replace c_wi := c_wi.below bq
      replace s_wo := s_wo.below bq
      replace c_wo := c_wo.below bq
      replace s_jo := s_jo.below bq
      replace c_jo := c_jo.below bq
      replace s_me := s_me.below bq
      replace c_me := c_me.below bq
      replace s_mi := s_mi.below bq
      replace c_mi := c_mi.below bq
      replace o_t3 := o_t3.below bq
      replace o_t4 := o_t4.below bq
      replace o_t5 := o_t5.below bq
      replace bw := bw.trans (bq.mono zw)
      replace zw : g ≤ w39.heap.size := Nat.le_trans zw bq.size
      clear bq
      clear o_t3
      clear o_t4
      clear o_t5
      have k_jo := c_jo.cell
      have CC := siList s_jo (by omega)
      go_wp2_with fail
      refine CC.mono ?_
      rintro e w40 ⟨t6, rfl, o_t6, bq⟩
      clear CC
      replace o_pp := o_pp.below (Nat.le_refl _) bq
      replace o_qq := o_qq.below (Nat.le_refl _) bq
      replace s_ss := s_ss.below bq
      replace c_ss := c_ss.below bq
      replace s_oo := s_oo.below bq
      replace c_oo := c_oo.below bq
      replace s_wi := s_wi.below bq
      replace c_wi := c_wi.below bq
      replace s_wo := s_wo.below bq
      replace c_wo := c_wo.below bq
      replace s_jo := s_jo.below bq
      replace c_jo := c_jo.below bq
      replace s_me := s_me.below bq
      replace c_me := c_me.below bq
      replace s_mi := s_mi.below bq
      replace c_mi := c_mi.below bq
      replace bw := bw.trans (bq.mono zw)
      replace zw : g ≤ w40.heap.size := Nat.le_trans zw bq.size
      clear bq
      clear k_jo
      have CC := rJoin _ X _ Y _ o_pp o_qq (by have := HY.out; omega) (by have := HX.out; omega)
      go_wp2_with fail
      refine CC.mono ?_
      rintro e w41 ⟨t7, rfl, o_t7, bq⟩
      clear CC
      replace o_pp := o_pp.below (Nat.le_refl _) bq
      replace o_qq := o_qq.below (Nat.le_refl _) bq
      replace s_ss := s_ss.below bq
      replace c_ss := c_ss.below bq
      replace s_oo := s_oo.below bq
      replace c_oo := c_oo.below bq
      replace s_wi := s_wi.below bq
      replace c_wi := c_wi.below bq
      replace s_wo := s_wo.below bq
      replace c_wo := c_wo.below bq
      replace s_jo := s_jo.below bq
      replace c_jo := c_jo.below bq
      replace s_me := s_me.below bq
      replace c_me := c_me.below bq
      replace s_mi := s_mi.below bq
      replace c_mi := c_mi.below bq
      replace o_t6 := o_t6.below bq
      replace bw := bw.trans (bq.mono zw)
      replace zw : g ≤ w41.heap.size := Nat.le_trans zw bq.size
      clear bq
      have CC := ints_yes o_t6.rg o_t7 (rfl)
      go_wp2_with fail
      refine CC.mono ?_
      rintro e w42 ⟨rfl, bq⟩
      clear CC
      replace o_pp := o_pp.below (Nat.le_refl _) bq
      replace o_qq := o_qq.below (Nat.le_refl _) bq
      replace s_ss := s_ss.below bq
      replace c_ss := c_ss.below bq
      replace s_oo := s_oo.below bq
      replace c_oo := c_oo.below bq
      replace s_wi := s_wi.below bq
      replace c_wi := c_wi.below bq
      replace s_wo := s_wo.below bq
      replace c_wo := c_wo.below bq
      replace s_jo := s_jo.below bq
      replace c_jo := c_jo.below bq
      replace s_me := s_me.below bq
      replace c_me := c_me.below bq
      replace s_mi := s_mi.below bq
      replace c_mi := c_mi.below bq
      replace o_t6 := o_t6.below bq
      replace o_t7 := o_t7.below (Nat.le_refl _) bq
      replace bw := bw.trans (bq.mono zw)
      replace zw : g ≤ w42.heap.size := Nat.le_trans zw bq.size
      clear bq
      clear o_t6
      clear o_t7
      have k_me := c_me.cell
      have CC := siList s_me (by omega)
      go_wp2_with fail
      refine CC.mono ?_
      rintro e w43 ⟨t8, rfl, o_t8, bq⟩
      clear CC
      replace o_pp := o_pp.below (Nat.le_refl _) bq
      replace o_qq := o_qq.below (Nat.le_refl _) bq
      replace s_ss := s_ss.below bq
      replace c_ss := c_ss.below bq
      replace s_oo := s_oo.below bq
      replace c_oo := c_oo.below bq
      replace s_wi := s_wi.below bq
      replace c_wi := c_wi.below bq
      replace s_wo := s_wo.below bq
      replace c_wo := c_wo.below bq
      replace s_jo := s_jo.below bq
      replace c_jo := c_jo.below bq
      replace s_me := s_me.below bq
      replace c_me := c_me.below bq
      replace s_mi := s_mi.below bq
      replace c_mi := c_mi.below bq
      replace bw := bw.trans (bq.mono zw)
      replace zw : g ≤ w43.heap.size := Nat.le_trans zw bq.size
      clear bq
      clear k_me
      have CC := rSome _ X _ Y true _ o_pp o_qq (by have := HX.out; omega)
      rw [some_true] at CC
      go_wp2_with fail
      refine CC.mono ?_
      rintro e w44 ⟨t9, rfl, o_t9, bq⟩
      clear CC
      replace o_pp := o_pp.below (Nat.le_refl _) bq
      replace o_qq := o_qq.below (Nat.le_refl _) bq
      replace s_ss := s_ss.below bq
      replace c_ss := c_ss.below bq
      replace s_oo := s_oo.below bq
      replace c_oo := c_oo.below bq
      replace s_wi := s_wi.below bq
      replace c_wi := c_wi.below bq
      replace s_wo := s_wo.below bq
      replace c_wo := c_wo.below bq
      replace s_jo := s_jo.below bq
      replace c_jo := c_jo.below bq
      replace s_me := s_me.below bq
      replace c_me := c_me.below bq
      replace s_mi := s_mi.below bq
      replace c_mi := c_mi.below bq
      replace o_t8 := o_t8.below bq
      replace bw := bw.trans (bq.mono zw)
      replace zw : g ≤ w44.heap.size := Nat.le_trans zw bq.size
      clear bq
      have CC := ints_yes o_t8.rg o_t9.rg (rfl)
      go_wp2_with fail
      refine CC.mono ?_
      rintro e w45 ⟨rfl, bq⟩
      clear CC
      replace o_pp := o_pp.below (Nat.le_refl _) bq
      replace o_qq := o_qq.below (Nat.le_refl _) bq
      replace s_ss := s_ss.below bq
      replace c_ss := c_ss.below bq
      replace s_oo := s_oo.below bq
      replace c_oo := c_oo.below bq
      replace s_wi := s_wi.below bq
      replace c_wi := c_wi.below bq
      replace s_wo := s_wo.below bq
      replace c_wo := c_wo.below bq
      replace s_jo := s_jo.below bq
      replace c_jo := c_jo.below bq
      replace s_me := s_me.below bq
      replace c_me := c_me.below bq
      replace s_mi := s_mi.below bq
      replace c_mi := c_mi.below bq
      replace o_t8 := o_t8.below bq
      replace o_t9 := o_t9.below bq
      replace bw := bw.trans (bq.mono zw)
      replace zw : g ≤ w45.heap.size := Nat.le_trans zw bq.size
      clear bq
      clear o_t8
      clear o_t9
      have k_mi := c_mi.cell
      have CC := siList s_mi (by omega)
      go_wp2_with fail
      refine CC.mono ?_
      rintro e w46 ⟨ta, rfl, o_ta, bq⟩
      clear CC
      replace o_pp := o_pp.below (Nat.le_refl _) bq
      replace o_qq := o_qq.below (Nat.le_refl _) bq
      replace s_ss := s_ss.below bq
      replace c_ss := c_ss.below bq
      replace s_oo := s_oo.below bq
      replace c_oo := c_oo.below bq
      replace s_wi := s_wi.below bq
      replace c_wi := c_wi.below bq
      replace s_wo := s_wo.below bq
      replace c_wo := c_wo.below bq
      replace s_jo := s_jo.below bq
      replace c_jo := c_jo.below bq
      replace s_me := s_me.below bq
      replace c_me := c_me.below bq
      replace s_mi := s_mi.below bq
      replace c_mi := c_mi.below bq
      replace bw := bw.trans (bq.mono zw)
      replace zw : g ≤ w46.heap.size := Nat.le_trans zw bq.size
      clear bq
      clear k_mi
      have CC := rSome _ X _ Y false _ o_pp o_qq (by have := HX.out; omega)
      rw [some_false] at CC
      go_wp2_with fail
      refine CC.mono ?_
      rintro e w47 ⟨tb, rfl, o_tb, bq⟩
      clear CC
      replace o_pp := o_pp.below (Nat.le_refl _) bq
      replace o_qq := o_qq.below (Nat.le_refl _) bq
      replace s_ss := s_ss.below bq
      replace c_ss := c_ss.below bq
      replace s_oo := s_oo.below bq
      replace c_oo := c_oo.below bq
      replace s_wi := s_wi.below bq
      replace c_wi := c_wi.below bq
      replace s_wo := s_wo.below bq
      replace c_wo := c_wo.below bq
      replace s_jo := s_jo.below bq
      replace c_jo := c_jo.below bq
      replace s_me := s_me.below bq
      replace c_me := c_me.below bq
      replace s_mi := s_mi.below bq
      replace c_mi := c_mi.below bq
      replace o_ta := o_ta.below bq
      replace bw := bw.trans (bq.mono zw)
      replace zw : g ≤ w47.heap.size := Nat.le_trans zw bq.size
      clear bq
      have CC := ints_yes o_ta.rg o_tb.rg (rfl)
      go_wp2_with fail
      refine CC.mono ?_
      rintro e w48 ⟨rfl, bq⟩
      clear CC
      replace o_pp := o_pp.below (Nat.le_refl _) bq
      replace o_qq := o_qq.below (Nat.le_refl _) bq
      replace s_ss := s_ss.below bq
      replace c_ss := c_ss.below bq
      replace s_oo := s_oo.below bq
      replace c_oo := c_oo.below bq
      replace s_wi := s_wi.below bq
      replace c_wi := c_wi.below bq
      replace s_wo := s_wo.below bq
      replace c_wo := c_wo.below bq
      replace s_jo := s_jo.below bq
      replace c_jo := c_jo.below bq
      replace s_me := s_me.below bq
      replace c_me := c_me.below bq
      replace s_mi := s_mi.below bq
      replace c_mi := c_mi.below bq
      replace o_ta := o_ta.below bq
      replace o_tb := o_tb.below bq
      replace bw := bw.trans (bq.mono zw)
      replace zw : g ≤ w48.heap.size := Nat.le_trans zw bq.size
      clear bq
      clear o_ta
      clear o_tb
      have CC := rSome _ X _ Y false _ o_pp o_qq (by have := HX.out; omega)
      rw [some_false] at CC
      go_wp2_with fail
      refine CC.mono ?_
      rintro e w49 ⟨u1, rfl, o_u1, bq⟩
      clear CC
      replace o_pp := o_pp.below (Nat.le_refl _) bq
      replace o_qq := o_qq.below (Nat.le_refl _) bq
      replace s_ss := s_ss.below bq
      replace c_ss := c_ss.below bq
      replace s_oo := s_oo.below bq
      replace c_oo := c_oo.below bq
      replace s_wi := s_wi.below bq
      replace c_wi := c_wi.below bq
      replace s_wo := s_wo.below bq
      replace c_wo := c_wo.below bq
      replace s_jo := s_jo.below bq
      replace c_jo := c_jo.below bq
      replace s_me := s_me.below bq
      replace c_me := c_me.below bq
      replace s_mi := s_mi.below bq
      replace c_mi := c_mi.below bq
      replace bw := bw.trans (bq.mono zw)
      replace zw : g ≤ w49.heap.size := Nat.le_trans zw bq.size
      clear bq
      obtain ⟨u1o, u1c, e_u1, -⟩ := o_u1.sl
      rw [HL1.out] at e_u1
      subst e_u1
      clear o_u1
      go_upto_region 28 with fail
      go_cut [23] from 181 to 188 (fun t wx => t = .bool q2 ∧ Hid (Below w49.heap.size w49 wx))
      case first =>
        cases q1 with
        | false =>
          have hq : q2 = false := HQ2.out (by trivial)
          subst hq
          go_wp2_with fail
          go_meet
          exact ⟨by first | rfl | simp, Below.refl _ _⟩
        | true =>
          have CC := rSome _ Y _ X false _ o_qq o_pp (by have := HY.out; omega)
          rw [some_false] at CC
          go_wp2_with fail
          refine CC.mono ?_
          rintro e wy ⟨uy, rfl, o_uy, bq⟩
          obtain ⟨uyo, uyc, e_uy, -⟩ := o_uy.sl
          rw [HL2.out] at e_uy
          subst e_uy
          have hq := HQ2b.out (by trivial)
          clear CC o_uy
          go_wp2_with fail
          go_meet
          exact ⟨by first | rfl | (rw [hq]) | simp [hq], bq⟩
      case rest =>
        obtain ⟨rfl, HBq⟩ := hcut
        have bq := HBq.out
        clear HBq
        replace o_pp := o_pp.below (Nat.le_refl _) bq
        replace o_qq := o_qq.below (Nat.le_refl _) bq
        replace s_ss := s_ss.below bq
        replace c_ss := c_ss.below bq
        replace s_oo := s_oo.below bq
        replace c_oo := c_oo.below bq
        replace s_wi := s_wi.below bq
        replace c_wi := c_wi.below bq
        replace s_wo := s_wo.below bq
        replace c_wo := c_wo.below bq
        replace s_jo := s_jo.below bq
        replace c_jo := c_jo.below bq
        replace s_me := s_me.below bq
        replace c_me := c_me.below bq
        replace s_mi := s_mi.below bq
        replace c_mi := c_mi.below bq
        replace bw := bw.trans (bq.mono zw)
        replace zw : g ≤ wc.heap.size := Nat.le_trans zw bq.size
        clear bq
        have k_ss := c_ss.cell
        have k_oo := c_oo.cell
        have CC := siWithin s_ss s_oo (by omega) q1 HQ1.out
        go_wp2_with fail
        refine CC.mono ?_
        rintro e w50 ⟨rfl, bq⟩
        clear CC
        replace o_pp := o_pp.below (Nat.le_refl _) bq
        replace o_qq := o_qq.below (Nat.le_refl _) bq
        replace s_ss := s_ss.below bq
        replace c_ss := c_ss.below bq
        replace s_oo := s_oo.below bq
        replace c_oo := c_oo.below bq
        replace s_wi := s_wi.below bq
        replace c_wi := c_wi.below bq
        replace s_wo := s_wo.below bq
        replace c_wo := c_wo.below bq
        replace s_jo := s_jo.below bq
        replace c_jo := c_jo.below bq
        replace s_me := s_me.below bq
        replace c_me := c_me.below bq
        replace s_mi := s_mi.below bq
        replace c_mi := c_mi.below bq
        replace bw := bw.trans (bq.mono zw)
        replace zw : g ≤ w50.heap.size := Nat.le_trans zw bq.size
        clear bq
        clear k_ss
        clear k_oo
        have k_ss := c_ss.cell
        have k_oo := c_oo.cell
        have CC := siSame s_ss s_oo q2 HQ2c.out
        go_wp2_with fail
        refine CC.mono ?_
        rintro e w51 ⟨rfl, bq⟩
        clear CC
        replace o_pp := o_pp.below (Nat.le_refl _) bq
        replace o_qq := o_qq.below (Nat.le_refl _) bq
        replace s_ss := s_ss.below bq
        replace c_ss := c_ss.below bq
        replace s_oo := s_oo.below bq
        replace c_oo := c_oo.below bq
        replace s_wi := s_wi.below bq
        replace c_wi := c_wi.below bq
        replace s_wo := s_wo.below bq
        replace c_wo := c_wo.below bq
        replace s_jo := s_jo.below bq
        replace c_jo := c_jo.below bq
        replace s_me := s_me.below bq
        replace c_me := c_me.below bq
        replace s_mi := s_mi.below bq
        replace c_mi := c_mi.below bq
        replace bw := bw.trans (bq.mono zw)
        replace zw : g ≤ w51.heap.size := Nat.le_trans zw bq.size
        clear bq
        clear k_ss
        clear k_oo
        have k_ss := c_ss.cell
        have CC := siList s_ss (by omega)
        go_wp2_with fail
        refine CC.mono ?_
        rintro e w52 ⟨c1, rfl, o_c1, bq⟩
        clear CC
        replace o_pp := o_pp.below (Nat.le_refl _) bq
        replace o_qq := o_qq.below (Nat.le_refl _) bq
        replace s_ss := s_ss.below bq
        replace c_ss := c_ss.below bq
        replace s_oo := s_oo.below bq
        replace c_oo := c_oo.below bq
        replace s_wi := s_wi.below bq
        replace c_wi := c_wi.below bq
        replace s_wo := s_wo.below bq
        replace c_wo := c_wo.below bq
        replace s_jo := s_jo.below bq
        replace c_jo := c_jo.below bq
        replace s_me := s_me.below bq
        replace c_me := c_me.below bq
        replace s_mi := s_mi.below bq
        replace c_mi := c_mi.below bq
        replace bw := bw.trans (bq.mono zw)
        replace zw : g ≤ w52.heap.size := Nat.le_trans zw bq.size
        clear bq
        clear k_ss
        have CC := ints_yes o_c1.rg o_pp (rfl)
        go_wp2_with fail
        refine CC.mono ?_
        rintro e w53 ⟨rfl, bq⟩
        clear CC
        replace o_pp := o_pp.below (Nat.le_refl _) bq
        replace o_qq := o_qq.below (Nat.le_refl _) bq
        replace s_ss := s_ss.below bq
        replace c_ss := c_ss.below bq
        replace s_oo := s_oo.below bq
        replace c_oo := c_oo.below bq
        replace s_wi := s_wi.below bq
        replace c_wi := c_wi.below bq
        replace s_wo := s_wo.below bq
        replace c_wo := c_wo.below bq
        replace s_jo := s_jo.below bq
        replace c_jo := c_jo.below bq
        replace s_me := s_me.below bq
        replace c_me := c_me.below bq
        replace s_mi := s_mi.below bq
        replace c_mi := c_mi.below bq
        replace o_c1 := o_c1.below bq
        replace bw := bw.trans (bq.mono zw)
        replace zw : g ≤ w53.heap.size := Nat.le_trans zw bq.size
        clear bq
        clear o_c1
        have k_oo := c_oo.cell
        have CC := siList s_oo (by omega)
        go_wp2_with fail
        refine CC.mono ?_
        rintro e w54 ⟨c2, rfl, o_c2, bq⟩
        clear CC
        replace o_pp := o_pp.below (Nat.le_refl _) bq
        replace o_qq := o_qq.below (Nat.le_refl _) bq
        replace s_ss := s_ss.below bq
        replace c_ss := c_ss.below bq
        replace s_oo := s_oo.below bq
        replace c_oo := c_oo.below bq
        replace s_wi := s_wi.below bq
        replace c_wi := c_wi.below bq
        replace s_wo := s_wo.below bq
        replace c_wo := c_wo.below bq
        replace s_jo := s_jo.below bq
        replace c_jo := c_jo.below bq
        replace s_me := s_me.below bq
        replace c_me := c_me.below bq
        replace s_mi := s_mi.below bq
        replace c_mi := c_mi.below bq
        replace bw := bw.trans (bq.mono zw)
        replace zw : g ≤ w54.heap.size := Nat.le_trans zw bq.size
        clear bq
        clear k_oo
        have CC := ints_yes o_c2.rg o_qq (rfl)
        go_wp2_with fail
        refine CC.mono ?_
        rintro e w55 ⟨rfl, bq⟩
        clear CC
        replace o_pp := o_pp.below (Nat.le_refl _) bq
        replace o_qq := o_qq.below (Nat.le_refl _) bq
        replace s_ss := s_ss.below bq
        replace c_ss := c_ss.below bq
        replace s_oo := s_oo.below bq
        replace c_oo := c_oo.below bq
        replace s_wi := s_wi.below bq
        replace c_wi := c_wi.below bq
        replace s_wo := s_wo.below bq
        replace c_wo := c_wo.below bq
        replace s_jo := s_jo.below bq
        replace c_jo := c_jo.below bq
        replace s_me := s_me.below bq
        replace c_me := c_me.below bq
        replace s_mi := s_mi.below bq
        replace c_mi := c_mi.below bq
        replace o_c2 := o_c2.below bq
        replace bw := bw.trans (bq.mono zw)
        replace zw : g ≤ w55.heap.size := Nat.le_trans zw bq.size
        clear bq
        clear o_c2
        have k_wi := c_wi.cell
        have lt_pp_la : Hid (0 < (X).length → ∀ b, (Value.slice ppo m0 ppc).ownBlock = some b → b < w55.heap.size) := o_pp.lt
        have lt_qq_la : Hid (0 < (Y).length → ∀ b, (Value.slice qqo m1 qqc).ownBlock = some b → b < w55.heap.size) := o_qq.lt
        have lt_ss_la : Hid (0 < (X).length → ∀ b, (Value.slice sso ssl ssc).ownBlock = some b → b < w55.heap.size) := s_ss.rg.lt
        have lt_oo_la : Hid (0 < (Y).length → ∀ b, (Value.slice ooo ool ooc).ownBlock = some b → b < w55.heap.size) := s_oo.rg.lt
        have lt_wi_la : Hid (0 < (insR x X).length → ∀ b, (Value.slice wio wil wic).ownBlock = some b → b < w55.heap.size) := s_wi.rg.lt
        have lt_wo_la : Hid (0 < ((X.filter fun z => decide (z ∈ [x]) == false)).length → ∀ b, (Value.slice woo wol woc).ownBlock = some b → b < w55.heap.size) := s_wo.rg.lt
        have lt_jo_la : Hid (0 < (joinR X Y).length → ∀ b, (Value.slice joo jol joc).ownBlock = some b → b < w55.heap.size) := s_jo.rg.lt
        have lt_me_la : Hid (0 < (meetR X Y).length → ∀ b, (Value.slice meo mel mec).ownBlock = some b → b < w55.heap.size) := s_me.rg.lt
        have lt_mi_la : Hid (0 < (minusR X Y).length → ∀ b, (Value.slice mio mil mic).ownBlock = some b → b < w55.heap.size) := s_mi.rg.lt
        have lt_boxss_la : Hid (b_ss < w55.heap.size) := c_ss.lt
        have lt_boxoo_la : Hid (b_oo < w55.heap.size) := c_oo.lt
        have lt_boxwi_la : Hid (b_wi < w55.heap.size) := c_wi.lt
        have lt_boxwo_la : Hid (b_wo < w55.heap.size) := c_wo.lt
        have lt_boxjo_la : Hid (b_jo < w55.heap.size) := c_jo.lt
        have lt_boxme_la : Hid (b_me < w55.heap.size) := c_me.lt
        have lt_boxmi_la : Hid (b_mi < w55.heap.size) := c_mi.lt
        have zb_la : Hid (g ≤ w55.heap.size) := zw
        have CC := siList s_wi (by omega)
        go_wp2_with fail
        refine CC.mono ?_
        rintro e w56 ⟨la, rfl, o_la, bq⟩
        clear CC
        have zB_la : w55.heap.size ≤ w56.heap.size := bq.size
        replace o_pp := o_pp.below (Nat.le_refl _) bq
        replace o_qq := o_qq.below (Nat.le_refl _) bq
        replace s_ss := s_ss.below bq
        replace c_ss := c_ss.below bq
        replace s_oo := s_oo.below bq
        replace c_oo := c_oo.below bq
        replace s_wi := s_wi.below bq
        replace c_wi := c_wi.below bq
        replace s_wo := s_wo.below bq
        replace c_wo := c_wo.below bq
        replace s_jo := s_jo.below bq
        replace c_jo := c_jo.below bq
        replace s_me := s_me.below bq
        replace c_me := c_me.below bq
        replace s_mi := s_mi.below bq
        replace c_mi := c_mi.below bq
        replace bw := bw.trans (bq.mono zw)
        replace zw : g ≤ w56.heap.size := Nat.le_trans zw bq.size
        clear bq
        have at_la : Hid (∀ g, (la).ownBlock = some g → w55.heap.size ≤ g ∧ g < w56.heap.size) := o_la.lt
        clear k_wi
        have k_jo := c_jo.cell
        have lt_pp_lb : Hid (0 < (X).length → ∀ b, (Value.slice ppo m0 ppc).ownBlock = some b → b < w56.heap.size) := o_pp.lt
        have lt_qq_lb : Hid (0 < (Y).length → ∀ b, (Value.slice qqo m1 qqc).ownBlock = some b → b < w56.heap.size) := o_qq.lt
        have lt_ss_lb : Hid (0 < (X).length → ∀ b, (Value.slice sso ssl ssc).ownBlock = some b → b < w56.heap.size) := s_ss.rg.lt
        have lt_oo_lb : Hid (0 < (Y).length → ∀ b, (Value.slice ooo ool ooc).ownBlock = some b → b < w56.heap.size) := s_oo.rg.lt
        have lt_wi_lb : Hid (0 < (insR x X).length → ∀ b, (Value.slice wio wil wic).ownBlock = some b → b < w56.heap.size) := s_wi.rg.lt
        have lt_wo_lb : Hid (0 < ((X.filter fun z => decide (z ∈ [x]) == false)).length → ∀ b, (Value.slice woo wol woc).ownBlock = some b → b < w56.heap.size) := s_wo.rg.lt
        have lt_jo_lb : Hid (0 < (joinR X Y).length → ∀ b, (Value.slice joo jol joc).ownBlock = some b → b < w56.heap.size) := s_jo.rg.lt
        have lt_me_lb : Hid (0 < (meetR X Y).length → ∀ b, (Value.slice meo mel mec).ownBlock = some b → b < w56.heap.size) := s_me.rg.lt
        have lt_mi_lb : Hid (0 < (minusR X Y).length → ∀ b, (Value.slice mio mil mic).ownBlock = some b → b < w56.heap.size) := s_mi.rg.lt
        have lt_la_lb : Hid (0 < (insR x X).length → ∀ b, (la).ownBlock = some b → b < w56.heap.size) := o_la.rg.lt
        have lt_boxss_lb : Hid (b_ss < w56.heap.size) := c_ss.lt
        have lt_boxoo_lb : Hid (b_oo < w56.heap.size) := c_oo.lt
        have lt_boxwi_lb : Hid (b_wi < w56.heap.size) := c_wi.lt
        have lt_boxwo_lb : Hid (b_wo < w56.heap.size) := c_wo.lt
        have lt_boxjo_lb : Hid (b_jo < w56.heap.size) := c_jo.lt
        have lt_boxme_lb : Hid (b_me < w56.heap.size) := c_me.lt
        have lt_boxmi_lb : Hid (b_mi < w56.heap.size) := c_mi.lt
        have zb_lb : Hid (g ≤ w56.heap.size) := zw
        have gt_lb_la : Hid (∀ g, (la).ownBlock = some g → g < w56.heap.size) := fun g hg => (o_la.lt g hg).2
        have CC := siList s_jo (by omega)
        go_wp2_with fail
        refine CC.mono ?_
        rintro e w57 ⟨lb, rfl, o_lb, bq⟩
        clear CC
        have zB_lb : w56.heap.size ≤ w57.heap.size := bq.size
        replace o_pp := o_pp.below (Nat.le_refl _) bq
        replace o_qq := o_qq.below (Nat.le_refl _) bq
        replace s_ss := s_ss.below bq
        replace c_ss := c_ss.below bq
        replace s_oo := s_oo.below bq
        replace c_oo := c_oo.below bq
        replace s_wi := s_wi.below bq
        replace c_wi := c_wi.below bq
        replace s_wo := s_wo.below bq
        replace c_wo := c_wo.below bq
        replace s_jo := s_jo.below bq
        replace c_jo := c_jo.below bq
        replace s_me := s_me.below bq
        replace c_me := c_me.below bq
        replace s_mi := s_mi.below bq
        replace c_mi := c_mi.below bq
        replace o_la := o_la.below bq
        replace zB_la : w55.heap.size ≤ w57.heap.size := Nat.le_trans zB_la bq.size
        replace bw := bw.trans (bq.mono zw)
        replace zw : g ≤ w57.heap.size := Nat.le_trans zw bq.size
        clear bq
        have at_lb : Hid (∀ g, (lb).ownBlock = some g → w56.heap.size ≤ g ∧ g < w57.heap.size) := o_lb.lt
        clear k_jo
        have k_me := c_me.cell
        have lt_pp_lc : Hid (0 < (X).length → ∀ b, (Value.slice ppo m0 ppc).ownBlock = some b → b < w57.heap.size) := o_pp.lt
        have lt_qq_lc : Hid (0 < (Y).length → ∀ b, (Value.slice qqo m1 qqc).ownBlock = some b → b < w57.heap.size) := o_qq.lt
        have lt_ss_lc : Hid (0 < (X).length → ∀ b, (Value.slice sso ssl ssc).ownBlock = some b → b < w57.heap.size) := s_ss.rg.lt
        have lt_oo_lc : Hid (0 < (Y).length → ∀ b, (Value.slice ooo ool ooc).ownBlock = some b → b < w57.heap.size) := s_oo.rg.lt
        have lt_wi_lc : Hid (0 < (insR x X).length → ∀ b, (Value.slice wio wil wic).ownBlock = some b → b < w57.heap.size) := s_wi.rg.lt
        have lt_wo_lc : Hid (0 < ((X.filter fun z => decide (z ∈ [x]) == false)).length → ∀ b, (Value.slice woo wol woc).ownBlock = some b → b < w57.heap.size) := s_wo.rg.lt
        have lt_jo_lc : Hid (0 < (joinR X Y).length → ∀ b, (Value.slice joo jol joc).ownBlock = some b → b < w57.heap.size) := s_jo.rg.lt
        have lt_me_lc : Hid (0 < (meetR X Y).length → ∀ b, (Value.slice meo mel mec).ownBlock = some b → b < w57.heap.size) := s_me.rg.lt
        have lt_mi_lc : Hid (0 < (minusR X Y).length → ∀ b, (Value.slice mio mil mic).ownBlock = some b → b < w57.heap.size) := s_mi.rg.lt
        have lt_la_lc : Hid (0 < (insR x X).length → ∀ b, (la).ownBlock = some b → b < w57.heap.size) := o_la.rg.lt
        have lt_lb_lc : Hid (0 < (joinR X Y).length → ∀ b, (lb).ownBlock = some b → b < w57.heap.size) := o_lb.rg.lt
        have lt_boxss_lc : Hid (b_ss < w57.heap.size) := c_ss.lt
        have lt_boxoo_lc : Hid (b_oo < w57.heap.size) := c_oo.lt
        have lt_boxwi_lc : Hid (b_wi < w57.heap.size) := c_wi.lt
        have lt_boxwo_lc : Hid (b_wo < w57.heap.size) := c_wo.lt
        have lt_boxjo_lc : Hid (b_jo < w57.heap.size) := c_jo.lt
        have lt_boxme_lc : Hid (b_me < w57.heap.size) := c_me.lt
        have lt_boxmi_lc : Hid (b_mi < w57.heap.size) := c_mi.lt
        have zb_lc : Hid (g ≤ w57.heap.size) := zw
        have gt_lc_la : Hid (∀ g, (la).ownBlock = some g → g < w57.heap.size) := fun g hg => (o_la.lt g hg).2
        have gt_lc_lb : Hid (∀ g, (lb).ownBlock = some g → g < w57.heap.size) := fun g hg => (o_lb.lt g hg).2
        have CC := siList s_me (by omega)
        go_wp2_with fail
        refine CC.mono ?_
        rintro e w58 ⟨lc, rfl, o_lc, bq⟩
        clear CC
        have zB_lc : w57.heap.size ≤ w58.heap.size := bq.size
        replace o_pp := o_pp.below (Nat.le_refl _) bq
        replace o_qq := o_qq.below (Nat.le_refl _) bq
        replace s_ss := s_ss.below bq
        replace c_ss := c_ss.below bq
        replace s_oo := s_oo.below bq
        replace c_oo := c_oo.below bq
        replace s_wi := s_wi.below bq
        replace c_wi := c_wi.below bq
        replace s_wo := s_wo.below bq
        replace c_wo := c_wo.below bq
        replace s_jo := s_jo.below bq
        replace c_jo := c_jo.below bq
        replace s_me := s_me.below bq
        replace c_me := c_me.below bq
        replace s_mi := s_mi.below bq
        replace c_mi := c_mi.below bq
        replace o_la := o_la.below bq
        replace o_lb := o_lb.below bq
        replace zB_la : w55.heap.size ≤ w58.heap.size := Nat.le_trans zB_la bq.size
        replace zB_lb : w56.heap.size ≤ w58.heap.size := Nat.le_trans zB_lb bq.size
        replace bw := bw.trans (bq.mono zw)
        replace zw : g ≤ w58.heap.size := Nat.le_trans zw bq.size
        clear bq
        have at_lc : Hid (∀ g, (lc).ownBlock = some g → w57.heap.size ≤ g ∧ g < w58.heap.size) := o_lc.lt
        clear k_me
        have k_mi := c_mi.cell
        have lt_pp_ld : Hid (0 < (X).length → ∀ b, (Value.slice ppo m0 ppc).ownBlock = some b → b < w58.heap.size) := o_pp.lt
        have lt_qq_ld : Hid (0 < (Y).length → ∀ b, (Value.slice qqo m1 qqc).ownBlock = some b → b < w58.heap.size) := o_qq.lt
        have lt_ss_ld : Hid (0 < (X).length → ∀ b, (Value.slice sso ssl ssc).ownBlock = some b → b < w58.heap.size) := s_ss.rg.lt
        have lt_oo_ld : Hid (0 < (Y).length → ∀ b, (Value.slice ooo ool ooc).ownBlock = some b → b < w58.heap.size) := s_oo.rg.lt
        have lt_wi_ld : Hid (0 < (insR x X).length → ∀ b, (Value.slice wio wil wic).ownBlock = some b → b < w58.heap.size) := s_wi.rg.lt
        have lt_wo_ld : Hid (0 < ((X.filter fun z => decide (z ∈ [x]) == false)).length → ∀ b, (Value.slice woo wol woc).ownBlock = some b → b < w58.heap.size) := s_wo.rg.lt
        have lt_jo_ld : Hid (0 < (joinR X Y).length → ∀ b, (Value.slice joo jol joc).ownBlock = some b → b < w58.heap.size) := s_jo.rg.lt
        have lt_me_ld : Hid (0 < (meetR X Y).length → ∀ b, (Value.slice meo mel mec).ownBlock = some b → b < w58.heap.size) := s_me.rg.lt
        have lt_mi_ld : Hid (0 < (minusR X Y).length → ∀ b, (Value.slice mio mil mic).ownBlock = some b → b < w58.heap.size) := s_mi.rg.lt
        have lt_la_ld : Hid (0 < (insR x X).length → ∀ b, (la).ownBlock = some b → b < w58.heap.size) := o_la.rg.lt
        have lt_lb_ld : Hid (0 < (joinR X Y).length → ∀ b, (lb).ownBlock = some b → b < w58.heap.size) := o_lb.rg.lt
        have lt_lc_ld : Hid (0 < (meetR X Y).length → ∀ b, (lc).ownBlock = some b → b < w58.heap.size) := o_lc.rg.lt
        have lt_boxss_ld : Hid (b_ss < w58.heap.size) := c_ss.lt
        have lt_boxoo_ld : Hid (b_oo < w58.heap.size) := c_oo.lt
        have lt_boxwi_ld : Hid (b_wi < w58.heap.size) := c_wi.lt
        have lt_boxwo_ld : Hid (b_wo < w58.heap.size) := c_wo.lt
        have lt_boxjo_ld : Hid (b_jo < w58.heap.size) := c_jo.lt
        have lt_boxme_ld : Hid (b_me < w58.heap.size) := c_me.lt
        have lt_boxmi_ld : Hid (b_mi < w58.heap.size) := c_mi.lt
        have zb_ld : Hid (g ≤ w58.heap.size) := zw
        have gt_ld_la : Hid (∀ g, (la).ownBlock = some g → g < w58.heap.size) := fun g hg => (o_la.lt g hg).2
        have gt_ld_lb : Hid (∀ g, (lb).ownBlock = some g → g < w58.heap.size) := fun g hg => (o_lb.lt g hg).2
        have gt_ld_lc : Hid (∀ g, (lc).ownBlock = some g → g < w58.heap.size) := fun g hg => (o_lc.lt g hg).2
        have CC := siList s_mi (by omega)
        go_wp2_with fail
        refine CC.mono ?_
        rintro e w59 ⟨ld, rfl, o_ld, bq⟩
        clear CC
        have zB_ld : w58.heap.size ≤ w59.heap.size := bq.size
        replace o_pp := o_pp.below (Nat.le_refl _) bq
        replace o_qq := o_qq.below (Nat.le_refl _) bq
        replace s_ss := s_ss.below bq
        replace c_ss := c_ss.below bq
        replace s_oo := s_oo.below bq
        replace c_oo := c_oo.below bq
        replace s_wi := s_wi.below bq
        replace c_wi := c_wi.below bq
        replace s_wo := s_wo.below bq
        replace c_wo := c_wo.below bq
        replace s_jo := s_jo.below bq
        replace c_jo := c_jo.below bq
        replace s_me := s_me.below bq
        replace c_me := c_me.below bq
        replace s_mi := s_mi.below bq
        replace c_mi := c_mi.below bq
        replace o_la := o_la.below bq
        replace o_lb := o_lb.below bq
        replace o_lc := o_lc.below bq
        replace zB_la : w55.heap.size ≤ w59.heap.size := Nat.le_trans zB_la bq.size
        replace zB_lb : w56.heap.size ≤ w59.heap.size := Nat.le_trans zB_lb bq.size
        replace zB_lc : w57.heap.size ≤ w59.heap.size := Nat.le_trans zB_lc bq.size
        replace bw := bw.trans (bq.mono zw)
        replace zw : g ≤ w59.heap.size := Nat.le_trans zw bq.size
        clear bq
        have at_ld : Hid (∀ g, (ld).ownBlock = some g → w58.heap.size ≤ g ∧ g < w59.heap.size) := o_ld.lt
        clear k_mi
        have k_wo := c_wo.cell
        have lt_pp_le_ : Hid (0 < (X).length → ∀ b, (Value.slice ppo m0 ppc).ownBlock = some b → b < w59.heap.size) := o_pp.lt
        have lt_qq_le_ : Hid (0 < (Y).length → ∀ b, (Value.slice qqo m1 qqc).ownBlock = some b → b < w59.heap.size) := o_qq.lt
        have lt_ss_le_ : Hid (0 < (X).length → ∀ b, (Value.slice sso ssl ssc).ownBlock = some b → b < w59.heap.size) := s_ss.rg.lt
        have lt_oo_le_ : Hid (0 < (Y).length → ∀ b, (Value.slice ooo ool ooc).ownBlock = some b → b < w59.heap.size) := s_oo.rg.lt
        have lt_wi_le_ : Hid (0 < (insR x X).length → ∀ b, (Value.slice wio wil wic).ownBlock = some b → b < w59.heap.size) := s_wi.rg.lt
        have lt_wo_le_ : Hid (0 < ((X.filter fun z => decide (z ∈ [x]) == false)).length → ∀ b, (Value.slice woo wol woc).ownBlock = some b → b < w59.heap.size) := s_wo.rg.lt
        have lt_jo_le_ : Hid (0 < (joinR X Y).length → ∀ b, (Value.slice joo jol joc).ownBlock = some b → b < w59.heap.size) := s_jo.rg.lt
        have lt_me_le_ : Hid (0 < (meetR X Y).length → ∀ b, (Value.slice meo mel mec).ownBlock = some b → b < w59.heap.size) := s_me.rg.lt
        have lt_mi_le_ : Hid (0 < (minusR X Y).length → ∀ b, (Value.slice mio mil mic).ownBlock = some b → b < w59.heap.size) := s_mi.rg.lt
        have lt_la_le_ : Hid (0 < (insR x X).length → ∀ b, (la).ownBlock = some b → b < w59.heap.size) := o_la.rg.lt
        have lt_lb_le_ : Hid (0 < (joinR X Y).length → ∀ b, (lb).ownBlock = some b → b < w59.heap.size) := o_lb.rg.lt
        have lt_lc_le_ : Hid (0 < (meetR X Y).length → ∀ b, (lc).ownBlock = some b → b < w59.heap.size) := o_lc.rg.lt
        have lt_ld_le_ : Hid (0 < (minusR X Y).length → ∀ b, (ld).ownBlock = some b → b < w59.heap.size) := o_ld.rg.lt
        have lt_boxss_le_ : Hid (b_ss < w59.heap.size) := c_ss.lt
        have lt_boxoo_le_ : Hid (b_oo < w59.heap.size) := c_oo.lt
        have lt_boxwi_le_ : Hid (b_wi < w59.heap.size) := c_wi.lt
        have lt_boxwo_le_ : Hid (b_wo < w59.heap.size) := c_wo.lt
        have lt_boxjo_le_ : Hid (b_jo < w59.heap.size) := c_jo.lt
        have lt_boxme_le_ : Hid (b_me < w59.heap.size) := c_me.lt
        have lt_boxmi_le_ : Hid (b_mi < w59.heap.size) := c_mi.lt
        have zb_le_ : Hid (g ≤ w59.heap.size) := zw
        have gt_le__la : Hid (∀ g, (la).ownBlock = some g → g < w59.heap.size) := fun g hg => (o_la.lt g hg).2
        have gt_le__lb : Hid (∀ g, (lb).ownBlock = some g → g < w59.heap.size) := fun g hg => (o_lb.lt g hg).2
        have gt_le__lc : Hid (∀ g, (lc).ownBlock = some g → g < w59.heap.size) := fun g hg => (o_lc.lt g hg).2
        have gt_le__ld : Hid (∀ g, (ld).ownBlock = some g → g < w59.heap.size) := fun g hg => (o_ld.lt g hg).2
        have CC := siList s_wo (by omega)
        go_wp2_with fail
        refine CC.mono ?_
        rintro e w60 ⟨le_, rfl, o_le_, bq⟩
        clear CC
        have zB_le_ : w59.heap.size ≤ w60.heap.size := bq.size
        replace o_pp := o_pp.below (Nat.le_refl _) bq
        replace o_qq := o_qq.below (Nat.le_refl _) bq
        replace s_ss := s_ss.below bq
        replace c_ss := c_ss.below bq
        replace s_oo := s_oo.below bq
        replace c_oo := c_oo.below bq
        replace s_wi := s_wi.below bq
        replace c_wi := c_wi.below bq
        replace s_wo := s_wo.below bq
        replace c_wo := c_wo.below bq
        replace s_jo := s_jo.below bq
        replace c_jo := c_jo.below bq
        replace s_me := s_me.below bq
        replace c_me := c_me.below bq
        replace s_mi := s_mi.below bq
        replace c_mi := c_mi.below bq
        replace o_la := o_la.below bq
        replace o_lb := o_lb.below bq
        replace o_lc := o_lc.below bq
        replace o_ld := o_ld.below bq
        replace zB_la : w55.heap.size ≤ w60.heap.size := Nat.le_trans zB_la bq.size
        replace zB_lb : w56.heap.size ≤ w60.heap.size := Nat.le_trans zB_lb bq.size
        replace zB_lc : w57.heap.size ≤ w60.heap.size := Nat.le_trans zB_lc bq.size
        replace zB_ld : w58.heap.size ≤ w60.heap.size := Nat.le_trans zB_ld bq.size
        replace bw := bw.trans (bq.mono zw)
        replace zw : g ≤ w60.heap.size := Nat.le_trans zw bq.size
        clear bq
        have at_le_ : Hid (∀ g, (le_).ownBlock = some g → w59.heap.size ≤ g ∧ g < w60.heap.size) := o_le_.lt
        clear k_wo
        have CC := spoilt_any _ _ (insR x X) (-2) _ o_la zB_la (by have := len_insR_le x X; have := HX.out; omega)
        go_wp2_with fail
        refine CC.mono ?_
        rintro e w61 ⟨rfl, hgq⟩
        clear CC
        replace o_pp := o_pp.stay hgq (fun h0 bq gq hb hq => by have h1 := lt_pp_la.out h0 bq hb; have h2 := (at_la.out gq hq).1; omega)
        replace o_qq := o_qq.stay hgq (fun h0 bq gq hb hq => by have h1 := lt_qq_la.out h0 bq hb; have h2 := (at_la.out gq hq).1; omega)
        replace s_ss := s_ss.stay hgq (fun h0 bq gq hb hq => by have h1 := lt_ss_la.out h0 bq hb; have h2 := (at_la.out gq hq).1; omega)
        replace c_ss := c_ss.stay hgq (fun gq hq => by have h1 := lt_boxss_la.out; have h2 := (at_la.out gq hq).1; omega)
        replace s_oo := s_oo.stay hgq (fun h0 bq gq hb hq => by have h1 := lt_oo_la.out h0 bq hb; have h2 := (at_la.out gq hq).1; omega)
        replace c_oo := c_oo.stay hgq (fun gq hq => by have h1 := lt_boxoo_la.out; have h2 := (at_la.out gq hq).1; omega)
        replace s_wi := s_wi.stay hgq (fun h0 bq gq hb hq => by have h1 := lt_wi_la.out h0 bq hb; have h2 := (at_la.out gq hq).1; omega)
        replace c_wi := c_wi.stay hgq (fun gq hq => by have h1 := lt_boxwi_la.out; have h2 := (at_la.out gq hq).1; omega)
        replace s_wo := s_wo.stay hgq (fun h0 bq gq hb hq => by have h1 := lt_wo_la.out h0 bq hb; have h2 := (at_la.out gq hq).1; omega)
        replace c_wo := c_wo.stay hgq (fun gq hq => by have h1 := lt_boxwo_la.out; have h2 := (at_la.out gq hq).1; omega)
        replace s_jo := s_jo.stay hgq (fun h0 bq gq hb hq => by have h1 := lt_jo_la.out h0 bq hb; have h2 := (at_la.out gq hq).1; omega)
        replace c_jo := c_jo.stay hgq (fun gq hq => by have h1 := lt_boxjo_la.out; have h2 := (at_la.out gq hq).1; omega)
        replace s_me := s_me.stay hgq (fun h0 bq gq hb hq => by have h1 := lt_me_la.out h0 bq hb; have h2 := (at_la.out gq hq).1; omega)
        replace c_me := c_me.stay hgq (fun gq hq => by have h1 := lt_boxme_la.out; have h2 := (at_la.out gq hq).1; omega)
        replace s_mi := s_mi.stay hgq (fun h0 bq gq hb hq => by have h1 := lt_mi_la.out h0 bq hb; have h2 := (at_la.out gq hq).1; omega)
        replace c_mi := c_mi.stay hgq (fun gq hq => by have h1 := lt_boxmi_la.out; have h2 := (at_la.out gq hq).1; omega)
        replace o_lb := o_lb.stay hgq (fun bq gq hb hq => by have h1 := gt_lb_la.out gq hq; have h2 := (o_lb.lt bq hb).1; omega)
        replace o_lc := o_lc.stay hgq (fun bq gq hb hq => by have h1 := gt_lc_la.out gq hq; have h2 := (o_lc.lt bq hb).1; omega)
        replace o_ld := o_ld.stay hgq (fun bq gq hb hq => by have h1 := gt_ld_la.out gq hq; have h2 := (o_ld.lt bq hb).1; omega)
        replace o_le_ := o_le_.stay hgq (fun bq gq hb hq => by have h1 := gt_le__la.out gq hq; have h2 := (o_le_.lt bq hb).1; omega)
        replace zB_lb : w56.heap.size ≤ w61.heap.size := Nat.le_trans zB_lb hgq.size
        replace zB_lc : w57.heap.size ≤ w61.heap.size := Nat.le_trans zB_lc hgq.size
        replace zB_ld : w58.heap.size ≤ w61.heap.size := Nat.le_trans zB_ld hgq.size
        replace zB_le_ : w59.heap.size ≤ w61.heap.size := Nat.le_trans zB_le_ hgq.size
        replace bw := below_row bw zw hgq (fun gq hq => Nat.le_trans zb_la.out (at_la.out gq hq).1)
        replace zw : g ≤ w61.heap.size := Nat.le_trans zw hgq.size
        clear hgq
        clear lt_pp_la lt_qq_la lt_ss_la lt_oo_la lt_wi_la lt_wo_la lt_jo_la lt_me_la lt_mi_la lt_boxss_la lt_boxoo_la lt_boxwi_la lt_boxwo_la lt_boxjo_la lt_boxme_la lt_boxmi_la zb_la zB_la at_la gt_lb_la gt_lc_la gt_ld_la gt_le__la
        have CC := spoilt_any _ _ (joinR X Y) (-3) _ o_lb zB_lb (by have := len_joinR_le Y X; have := HX.out; have := HY.out; omega)
        go_wp2_with fail
        refine CC.mono ?_
        rintro e w62 ⟨rfl, hgq⟩
        clear CC
        replace o_pp := o_pp.stay hgq (fun h0 bq gq hb hq => by have h1 := lt_pp_lb.out h0 bq hb; have h2 := (at_lb.out gq hq).1; omega)
        replace o_qq := o_qq.stay hgq (fun h0 bq gq hb hq => by have h1 := lt_qq_lb.out h0 bq hb; have h2 := (at_lb.out gq hq).1; omega)
        replace s_ss := s_ss.stay hgq (fun h0 bq gq hb hq => by have h1 := lt_ss_lb.out h0 bq hb; have h2 := (at_lb.out gq hq).1; omega)
        replace c_ss := c_ss.stay hgq (fun gq hq => by have h1 := lt_boxss_lb.out; have h2 := (at_lb.out gq hq).1; omega)
        replace s_oo := s_oo.stay hgq (fun h0 bq gq hb hq => by have h1 := lt_oo_lb.out h0 bq hb; have h2 := (at_lb.out gq hq).1; omega)
        replace c_oo := c_oo.stay hgq (fun gq hq => by have h1 := lt_boxoo_lb.out; have h2 := (at_lb.out gq hq).1; omega)
        replace s_wi := s_wi.stay hgq (fun h0 bq gq hb hq => by have h1 := lt_wi_lb.out h0 bq hb; have h2 := (at_lb.out gq hq).1; omega)
        replace c_wi := c_wi.stay hgq (fun gq hq => by have h1 := lt_boxwi_lb.out; have h2 := (at_lb.out gq hq).1; omega)
        replace s_wo := s_wo.stay hgq (fun h0 bq gq hb hq => by have h1 := lt_wo_lb.out h0 bq hb; have h2 := (at_lb.out gq hq).1; omega)
        replace c_wo := c_wo.stay hgq (fun gq hq => by have h1 := lt_boxwo_lb.out; have h2 := (at_lb.out gq hq).1; omega)
        replace s_jo := s_jo.stay hgq (fun h0 bq gq hb hq => by have h1 := lt_jo_lb.out h0 bq hb; have h2 := (at_lb.out gq hq).1; omega)
        replace c_jo := c_jo.stay hgq (fun gq hq => by have h1 := lt_boxjo_lb.out; have h2 := (at_lb.out gq hq).1; omega)
        replace s_me := s_me.stay hgq (fun h0 bq gq hb hq => by have h1 := lt_me_lb.out h0 bq hb; have h2 := (at_lb.out gq hq).1; omega)
        replace c_me := c_me.stay hgq (fun gq hq => by have h1 := lt_boxme_lb.out; have h2 := (at_lb.out gq hq).1; omega)
        replace s_mi := s_mi.stay hgq (fun h0 bq gq hb hq => by have h1 := lt_mi_lb.out h0 bq hb; have h2 := (at_lb.out gq hq).1; omega)
        replace c_mi := c_mi.stay hgq (fun gq hq => by have h1 := lt_boxmi_lb.out; have h2 := (at_lb.out gq hq).1; omega)
        replace o_lc := o_lc.stay hgq (fun bq gq hb hq => by have h1 := gt_lc_lb.out gq hq; have h2 := (o_lc.lt bq hb).1; omega)
        replace o_ld := o_ld.stay hgq (fun bq gq hb hq => by have h1 := gt_ld_lb.out gq hq; have h2 := (o_ld.lt bq hb).1; omega)
        replace o_le_ := o_le_.stay hgq (fun bq gq hb hq => by have h1 := gt_le__lb.out gq hq; have h2 := (o_le_.lt bq hb).1; omega)
        replace zB_lc : w57.heap.size ≤ w62.heap.size := Nat.le_trans zB_lc hgq.size
        replace zB_ld : w58.heap.size ≤ w62.heap.size := Nat.le_trans zB_ld hgq.size
        replace zB_le_ : w59.heap.size ≤ w62.heap.size := Nat.le_trans zB_le_ hgq.size
        replace bw := below_row bw zw hgq (fun gq hq => Nat.le_trans zb_lb.out (at_lb.out gq hq).1)
        replace zw : g ≤ w62.heap.size := Nat.le_trans zw hgq.size
        clear hgq
        clear lt_pp_lb lt_qq_lb lt_ss_lb lt_oo_lb lt_wi_lb lt_wo_lb lt_jo_lb lt_me_lb lt_mi_lb lt_la_lb lt_boxss_lb lt_boxoo_lb lt_boxwi_lb lt_boxwo_lb lt_boxjo_lb lt_boxme_lb lt_boxmi_lb zb_lb zB_lb at_lb gt_lc_lb gt_ld_lb gt_le__lb
        have CC := spoilt_any _ _ (meetR X Y) (-4) _ o_lc zB_lc (by have := len_filt X (fun z => decide (z ∈ Y)) (k := 300) (by have := HX.out; omega); exact Nat.le_trans this (by omega))
        go_wp2_with fail
        refine CC.mono ?_
        rintro e w63 ⟨rfl, hgq⟩
        clear CC
        replace o_pp := o_pp.stay hgq (fun h0 bq gq hb hq => by have h1 := lt_pp_lc.out h0 bq hb; have h2 := (at_lc.out gq hq).1; omega)
        replace o_qq := o_qq.stay hgq (fun h0 bq gq hb hq => by have h1 := lt_qq_lc.out h0 bq hb; have h2 := (at_lc.out gq hq).1; omega)
        replace s_ss := s_ss.stay hgq (fun h0 bq gq hb hq => by have h1 := lt_ss_lc.out h0 bq hb; have h2 := (at_lc.out gq hq).1; omega)
        replace c_ss := c_ss.stay hgq (fun gq hq => by have h1 := lt_boxss_lc.out; have h2 := (at_lc.out gq hq).1; omega)
        replace s_oo := s_oo.stay hgq (fun h0 bq gq hb hq => by have h1 := lt_oo_lc.out h0 bq hb; have h2 := (at_lc.out gq hq).1; omega)
        replace c_oo := c_oo.stay hgq (fun gq hq => by have h1 := lt_boxoo_lc.out; have h2 := (at_lc.out gq hq).1; omega)
        replace s_wi := s_wi.stay hgq (fun h0 bq gq hb hq => by have h1 := lt_wi_lc.out h0 bq hb; have h2 := (at_lc.out gq hq).1; omega)
        replace c_wi := c_wi.stay hgq (fun gq hq => by have h1 := lt_boxwi_lc.out; have h2 := (at_lc.out gq hq).1; omega)
        replace s_wo := s_wo.stay hgq (fun h0 bq gq hb hq => by have h1 := lt_wo_lc.out h0 bq hb; have h2 := (at_lc.out gq hq).1; omega)
        replace c_wo := c_wo.stay hgq (fun gq hq => by have h1 := lt_boxwo_lc.out; have h2 := (at_lc.out gq hq).1; omega)
        replace s_jo := s_jo.stay hgq (fun h0 bq gq hb hq => by have h1 := lt_jo_lc.out h0 bq hb; have h2 := (at_lc.out gq hq).1; omega)
        replace c_jo := c_jo.stay hgq (fun gq hq => by have h1 := lt_boxjo_lc.out; have h2 := (at_lc.out gq hq).1; omega)
        replace s_me := s_me.stay hgq (fun h0 bq gq hb hq => by have h1 := lt_me_lc.out h0 bq hb; have h2 := (at_lc.out gq hq).1; omega)
        replace c_me := c_me.stay hgq (fun gq hq => by have h1 := lt_boxme_lc.out; have h2 := (at_lc.out gq hq).1; omega)
        replace s_mi := s_mi.stay hgq (fun h0 bq gq hb hq => by have h1 := lt_mi_lc.out h0 bq hb; have h2 := (at_lc.out gq hq).1; omega)
        replace c_mi := c_mi.stay hgq (fun gq hq => by have h1 := lt_boxmi_lc.out; have h2 := (at_lc.out gq hq).1; omega)
        replace o_ld := o_ld.stay hgq (fun bq gq hb hq => by have h1 := gt_ld_lc.out gq hq; have h2 := (o_ld.lt bq hb).1; omega)
        replace o_le_ := o_le_.stay hgq (fun bq gq hb hq => by have h1 := gt_le__lc.out gq hq; have h2 := (o_le_.lt bq hb).1; omega)
        replace zB_ld : w58.heap.size ≤ w63.heap.size := Nat.le_trans zB_ld hgq.size
        replace zB_le_ : w59.heap.size ≤ w63.heap.size := Nat.le_trans zB_le_ hgq.size
        replace bw := below_row bw zw hgq (fun gq hq => Nat.le_trans zb_lc.out (at_lc.out gq hq).1)
        replace zw : g ≤ w63.heap.size := Nat.le_trans zw hgq.size
        clear hgq
        clear lt_pp_lc lt_qq_lc lt_ss_lc lt_oo_lc lt_wi_lc lt_wo_lc lt_jo_lc lt_me_lc lt_mi_lc lt_la_lc lt_lb_lc lt_boxss_lc lt_boxoo_lc lt_boxwi_lc lt_boxwo_lc lt_boxjo_lc lt_boxme_lc lt_boxmi_lc zb_lc zB_lc at_lc gt_ld_lc gt_le__lc
        have CC := spoilt_any _ _ (minusR X Y) (-6) _ o_ld zB_ld (by have := len_filt X (fun z => !decide (z ∈ Y)) (k := 300) (by have := HX.out; omega); exact Nat.le_trans this (by omega))
        go_wp2_with fail
        refine CC.mono ?_
        rintro e w64 ⟨rfl, hgq⟩
        clear CC
        replace o_pp := o_pp.stay hgq (fun h0 bq gq hb hq => by have h1 := lt_pp_ld.out h0 bq hb; have h2 := (at_ld.out gq hq).1; omega)
        replace o_qq := o_qq.stay hgq (fun h0 bq gq hb hq => by have h1 := lt_qq_ld.out h0 bq hb; have h2 := (at_ld.out gq hq).1; omega)
        replace s_ss := s_ss.stay hgq (fun h0 bq gq hb hq => by have h1 := lt_ss_ld.out h0 bq hb; have h2 := (at_ld.out gq hq).1; omega)
        replace c_ss := c_ss.stay hgq (fun gq hq => by have h1 := lt_boxss_ld.out; have h2 := (at_ld.out gq hq).1; omega)
        replace s_oo := s_oo.stay hgq (fun h0 bq gq hb hq => by have h1 := lt_oo_ld.out h0 bq hb; have h2 := (at_ld.out gq hq).1; omega)
        replace c_oo := c_oo.stay hgq (fun gq hq => by have h1 := lt_boxoo_ld.out; have h2 := (at_ld.out gq hq).1; omega)
        replace s_wi := s_wi.stay hgq (fun h0 bq gq hb hq => by have h1 := lt_wi_ld.out h0 bq hb; have h2 := (at_ld.out gq hq).1; omega)
        replace c_wi := c_wi.stay hgq (fun gq hq => by have h1 := lt_boxwi_ld.out; have h2 := (at_ld.out gq hq).1; omega)
        replace s_wo := s_wo.stay hgq (fun h0 bq gq hb hq => by have h1 := lt_wo_ld.out h0 bq hb; have h2 := (at_ld.out gq hq).1; omega)
        replace c_wo := c_wo.stay hgq (fun gq hq => by have h1 := lt_boxwo_ld.out; have h2 := (at_ld.out gq hq).1; omega)
        replace s_jo := s_jo.stay hgq (fun h0 bq gq hb hq => by have h1 := lt_jo_ld.out h0 bq hb; have h2 := (at_ld.out gq hq).1; omega)
        replace c_jo := c_jo.stay hgq (fun gq hq => by have h1 := lt_boxjo_ld.out; have h2 := (at_ld.out gq hq).1; omega)
        replace s_me := s_me.stay hgq (fun h0 bq gq hb hq => by have h1 := lt_me_ld.out h0 bq hb; have h2 := (at_ld.out gq hq).1; omega)
        replace c_me := c_me.stay hgq (fun gq hq => by have h1 := lt_boxme_ld.out; have h2 := (at_ld.out gq hq).1; omega)
        replace s_mi := s_mi.stay hgq (fun h0 bq gq hb hq => by have h1 := lt_mi_ld.out h0 bq hb; have h2 := (at_ld.out gq hq).1; omega)
        replace c_mi := c_mi.stay hgq (fun gq hq => by have h1 := lt_boxmi_ld.out; have h2 := (at_ld.out gq hq).1; omega)
        replace o_le_ := o_le_.stay hgq (fun bq gq hb hq => by have h1 := gt_le__ld.out gq hq; have h2 := (o_le_.lt bq hb).1; omega)
        replace zB_le_ : w59.heap.size ≤ w64.heap.size := Nat.le_trans zB_le_ hgq.size
        replace bw := below_row bw zw hgq (fun gq hq => Nat.le_trans zb_ld.out (at_ld.out gq hq).1)
        replace zw : g ≤ w64.heap.size := Nat.le_trans zw hgq.size
        clear hgq
        clear lt_pp_ld lt_qq_ld lt_ss_ld lt_oo_ld lt_wi_ld lt_wo_ld lt_jo_ld lt_me_ld lt_mi_ld lt_la_ld lt_lb_ld lt_lc_ld lt_boxss_ld lt_boxoo_ld lt_boxwi_ld lt_boxwo_ld lt_boxjo_ld lt_boxme_ld lt_boxmi_ld zb_ld zB_ld at_ld gt_le__ld
        have CC := spoilt_any _ _ (X.filter fun z => decide (z ∈ [x]) == false) (-7) _ o_le_ zB_le_ (by have := len_filt X (fun z => decide (z ∈ [x]) == false) (k := 300) (by have := HX.out; omega); exact Nat.le_trans this (by omega))
        go_wp2_with fail
        refine CC.mono ?_
        rintro e w65 ⟨rfl, hgq⟩
        clear CC
        replace o_pp := o_pp.stay hgq (fun h0 bq gq hb hq => by have h1 := lt_pp_le_.out h0 bq hb; have h2 := (at_le_.out gq hq).1; omega)
        replace o_qq := o_qq.stay hgq (fun h0 bq gq hb hq => by have h1 := lt_qq_le_.out h0 bq hb; have h2 := (at_le_.out gq hq).1; omega)
        replace s_ss := s_ss.stay hgq (fun h0 bq gq hb hq => by have h1 := lt_ss_le_.out h0 bq hb; have h2 := (at_le_.out gq hq).1; omega)
        replace c_ss := c_ss.stay hgq (fun gq hq => by have h1 := lt_boxss_le_.out; have h2 := (at_le_.out gq hq).1; omega)
        replace s_oo := s_oo.stay hgq (fun h0 bq gq hb hq => by have h1 := lt_oo_le_.out h0 bq hb; have h2 := (at_le_.out gq hq).1; omega)
        replace c_oo := c_oo.stay hgq (fun gq hq => by have h1 := lt_boxoo_le_.out; have h2 := (at_le_.out gq hq).1; omega)
        replace s_wi := s_wi.stay hgq (fun h0 bq gq hb hq => by have h1 := lt_wi_le_.out h0 bq hb; have h2 := (at_le_.out gq hq).1; omega)
        replace c_wi := c_wi.stay hgq (fun gq hq => by have h1 := lt_boxwi_le_.out; have h2 := (at_le_.out gq hq).1; omega)
        replace s_wo := s_wo.stay hgq (fun h0 bq gq hb hq => by have h1 := lt_wo_le_.out h0 bq hb; have h2 := (at_le_.out gq hq).1; omega)
        replace c_wo := c_wo.stay hgq (fun gq hq => by have h1 := lt_boxwo_le_.out; have h2 := (at_le_.out gq hq).1; omega)
        replace s_jo := s_jo.stay hgq (fun h0 bq gq hb hq => by have h1 := lt_jo_le_.out h0 bq hb; have h2 := (at_le_.out gq hq).1; omega)
        replace c_jo := c_jo.stay hgq (fun gq hq => by have h1 := lt_boxjo_le_.out; have h2 := (at_le_.out gq hq).1; omega)
        replace s_me := s_me.stay hgq (fun h0 bq gq hb hq => by have h1 := lt_me_le_.out h0 bq hb; have h2 := (at_le_.out gq hq).1; omega)
        replace c_me := c_me.stay hgq (fun gq hq => by have h1 := lt_boxme_le_.out; have h2 := (at_le_.out gq hq).1; omega)
        replace s_mi := s_mi.stay hgq (fun h0 bq gq hb hq => by have h1 := lt_mi_le_.out h0 bq hb; have h2 := (at_le_.out gq hq).1; omega)
        replace c_mi := c_mi.stay hgq (fun gq hq => by have h1 := lt_boxmi_le_.out; have h2 := (at_le_.out gq hq).1; omega)
        replace bw := below_row bw zw hgq (fun gq hq => Nat.le_trans zb_le_.out (at_le_.out gq hq).1)
        replace zw : g ≤ w65.heap.size := Nat.le_trans zw hgq.size
        clear hgq
        clear lt_pp_le_ lt_qq_le_ lt_ss_le_ lt_oo_le_ lt_wi_le_ lt_wo_le_ lt_jo_le_ lt_me_le_ lt_mi_le_ lt_la_le_ lt_lb_le_ lt_lc_le_ lt_ld_le_ lt_boxss_le_ lt_boxoo_le_ lt_boxwi_le_ lt_boxwo_le_ lt_boxjo_le_ lt_boxme_le_ lt_boxmi_le_ zb_le_ zB_le_ at_le_
        have k_wi := c_wi.cell
        have CC := siList s_wi (by omega)
        go_wp2_with fail
        refine CC.mono ?_
        rintro e w66 ⟨y1, rfl, o_y1, bq⟩
        clear CC
        replace o_pp := o_pp.below (Nat.le_refl _) bq
        replace o_qq := o_qq.below (Nat.le_refl _) bq
        replace s_ss := s_ss.below bq
        replace c_ss := c_ss.below bq
        replace s_oo := s_oo.below bq
        replace c_oo := c_oo.below bq
        replace s_wi := s_wi.below bq
        replace c_wi := c_wi.below bq
        replace s_wo := s_wo.below bq
        replace c_wo := c_wo.below bq
        replace s_jo := s_jo.below bq
        replace c_jo := c_jo.below bq
        replace s_me := s_me.below bq
        replace c_me := c_me.below bq
        replace s_mi := s_mi.below bq
        replace c_mi := c_mi.below bq
        replace bw := bw.trans (bq.mono zw)
        replace zw : g ≤ w66.heap.size := Nat.le_trans zw bq.size
        clear bq
        clear k_wi
        have CC := rWith _ X x _ o_pp (by have := HX.out; omega)
        go_wp2_with fail
        refine CC.mono ?_
        rintro e w67 ⟨y2, rfl, o_y2, bq⟩
        clear CC
        replace o_pp := o_pp.below (Nat.le_refl _) bq
        replace o_qq := o_qq.below (Nat.le_refl _) bq
        replace s_ss := s_ss.below bq
        replace c_ss := c_ss.below bq
        replace s_oo := s_oo.below bq
        replace c_oo := c_oo.below bq
        replace s_wi := s_wi.below bq
        replace c_wi := c_wi.below bq
        replace s_wo := s_wo.below bq
        replace c_wo := c_wo.below bq
        replace s_jo := s_jo.below bq
        replace c_jo := c_jo.below bq
        replace s_me := s_me.below bq
        replace c_me := c_me.below bq
        replace s_mi := s_mi.below bq
        replace c_mi := c_mi.below bq
        replace o_y1 := o_y1.below bq
        replace bw := bw.trans (bq.mono zw)
        replace zw : g ≤ w67.heap.size := Nat.le_trans zw bq.size
        clear bq
        have CC := ints_yes o_y1.rg o_y2.rg (rfl)
        go_wp2_with fail
        refine CC.mono ?_
        rintro e w68 ⟨rfl, bq⟩
        clear CC
        replace o_pp := o_pp.below (Nat.le_refl _) bq
        replace o_qq := o_qq.below (Nat.le_refl _) bq
        replace s_ss := s_ss.below bq
        replace c_ss := c_ss.below bq
        replace s_oo := s_oo.below bq
        replace c_oo := c_oo.below bq
        replace s_wi := s_wi.below bq
        replace c_wi := c_wi.below bq
        replace s_wo := s_wo.below bq
        replace c_wo := c_wo.below bq
        replace s_jo := s_jo.below bq
        replace c_jo := c_jo.below bq
        replace s_me := s_me.below bq
        replace c_me := c_me.below bq
        replace s_mi := s_mi.below bq
        replace c_mi := c_mi.below bq
        replace o_y1 := o_y1.below bq
        replace o_y2 := o_y2.below bq
        replace bw := bw.trans (bq.mono zw)
        replace zw : g ≤ w68.heap.size := Nat.le_trans zw bq.size
        clear bq
        clear o_y1
        clear o_y2
        have k_wo := c_wo.cell
        have CC := siList s_wo (by omega)
        go_wp2_with fail
        refine CC.mono ?_
        rintro e w69 ⟨y3, rfl, o_y3, bq⟩
        clear CC
        replace o_pp := o_pp.below (Nat.le_refl _) bq
        replace o_qq := o_qq.below (Nat.le_refl _) bq
        replace s_ss := s_ss.below bq
        replace c_ss := c_ss.below bq
        replace s_oo := s_oo.below bq
        replace c_oo := c_oo.below bq
        replace s_wi := s_wi.below bq
        replace c_wi := c_wi.below bq
        replace s_wo := s_wo.below bq
        replace c_wo := c_wo.below bq
        replace s_jo := s_jo.below bq
        replace c_jo := c_jo.below bq
        replace s_me := s_me.below bq
        replace c_me := c_me.below bq
        replace s_mi := s_mi.below bq
        replace c_mi := c_mi.below bq
        replace bw := bw.trans (bq.mono zw)
        replace zw : g ≤ w69.heap.size := Nat.le_trans zw bq.size
        clear bq
        clear k_wo
        have CC := rWith _ [] x w69 (RG.nil _) (by simp)
        go_wp2_with fail
        refine CC.mono ?_
        rintro e w70 ⟨y4, rfl, o_y4, bq⟩
        clear CC
        replace o_pp := o_pp.below (Nat.le_refl _) bq
        replace o_qq := o_qq.below (Nat.le_refl _) bq
        replace s_ss := s_ss.below bq
        replace c_ss := c_ss.below bq
        replace s_oo := s_oo.below bq
        replace c_oo := c_oo.below bq
        replace s_wi := s_wi.below bq
        replace c_wi := c_wi.below bq
        replace s_wo := s_wo.below bq
        replace c_wo := c_wo.below bq
        replace s_jo := s_jo.below bq
        replace c_jo := c_jo.below bq
        replace s_me := s_me.below bq
        replace c_me := c_me.below bq
        replace s_mi := s_mi.below bq
        replace c_mi := c_mi.below bq
        replace o_y3 := o_y3.below bq
        replace bw := bw.trans (bq.mono zw)
        replace zw : g ≤ w70.heap.size := Nat.le_trans zw bq.size
        clear bq
        have CC := rSome _ X _ [x] false _ o_pp o_y4.rg (by have := HX.out; omega)
        go_wp2_with fail
        refine CC.mono ?_
        rintro e w71 ⟨y5, rfl, o_y5, bq⟩
        clear CC
        replace o_pp := o_pp.below (Nat.le_refl _) bq
        replace o_qq := o_qq.below (Nat.le_refl _) bq
        replace s_ss := s_ss.below bq
        replace c_ss := c_ss.below bq
        replace s_oo := s_oo.below bq
        replace c_oo := c_oo.below bq
        replace s_wi := s_wi.below bq
        replace c_wi := c_wi.below bq
        replace s_wo := s_wo.below bq
        replace c_wo := c_wo.below bq
        replace s_jo := s_jo.below bq
        replace c_jo := c_jo.below bq
        replace s_me := s_me.below bq
        replace c_me := c_me.below bq
        replace s_mi := s_mi.below bq
        replace c_mi := c_mi.below bq
        replace o_y3 := o_y3.below bq
        replace o_y4 := o_y4.below bq
        replace bw := bw.trans (bq.mono zw)
        replace zw : g ≤ w71.heap.size := Nat.le_trans zw bq.size
        clear bq
        have CC := ints_yes o_y3.rg o_y5.rg (rfl)
        go_wp2_with fail
        refine CC.mono ?_
        rintro e w72 ⟨rfl, bq⟩
        clear CC
        replace o_pp := o_pp.below (Nat.le_refl _) bq
        replace o_qq := o_qq.below (Nat.le_refl _) bq
        replace s_ss := s_ss.below bq
        replace c_ss := c_ss.below bq
        replace s_oo := s_oo.below bq
        replace c_oo := c_oo.below bq
        replace s_wi := s_wi.below bq
        replace c_wi := c_wi.below bq
        replace s_wo := s_wo.below bq
        replace c_wo := c_wo.below bq
        replace s_jo := s_jo.below bq
        replace c_jo := c_jo.below bq
        replace s_me := s_me.below bq
        replace c_me := c_me.below bq
        replace s_mi := s_mi.below bq
        replace c_mi := c_mi.below bq
        replace o_y3 := o_y3.below bq
        replace o_y4 := o_y4.below bq
        replace o_y5 := o_y5.below bq
        replace bw := bw.trans (bq.mono zw)
        replace zw : g ≤ w72.heap.size := Nat.le_trans zw bq.size
        clear bq
        clear o_y3
        clear o_y4
        clear o_y5
        have k_jo := c_jo.cell
        have CC := siList s_jo (by omega)
        go_wp2_with fail
        refine CC.mono ?_
        rintro e w73 ⟨y6, rfl, o_y6, bq⟩
        clear CC
        replace o_pp := o_pp.below (Nat.le_refl _) bq
        replace o_qq := o_qq.below (Nat.le_refl _) bq
        replace s_ss := s_ss.below bq
        replace c_ss := c_ss.below bq
        replace s_oo := s_oo.below bq
        replace c_oo := c_oo.below bq
        replace s_wi := s_wi.below bq
        replace c_wi := c_wi.below bq
        replace s_wo := s_wo.below bq
        replace c_wo := c_wo.below bq
        replace s_jo := s_jo.below bq
        replace c_jo := c_jo.below bq
        replace s_me := s_me.below bq
        replace c_me := c_me.below bq
        replace s_mi := s_mi.below bq
        replace c_mi := c_mi.below bq
        replace bw := bw.trans (bq.mono zw)
        replace zw : g ≤ w73.heap.size := Nat.le_trans zw bq.size
        clear bq
        clear k_jo
        have CC := rJoin _ X _ Y _ o_pp o_qq (by have := HY.out; omega) (by have := HX.out; omega)
        go_wp2_with fail
        refine CC.mono ?_
        rintro e w74 ⟨y7, rfl, o_y7, bq⟩
        clear CC
        replace o_pp := o_pp.below (Nat.le_refl _) bq
        replace o_qq := o_qq.below (Nat.le_refl _) bq
        replace s_ss := s_ss.below bq
        replace c_ss := c_ss.below bq
        replace s_oo := s_oo.below bq
        replace c_oo := c_oo.below bq
        replace s_wi := s_wi.below bq
        replace c_wi := c_wi.below bq
        replace s_wo := s_wo.below bq
        replace c_wo := c_wo.below bq
        replace s_jo := s_jo.below bq
        replace c_jo := c_jo.below bq
        replace s_me := s_me.below bq
        replace c_me := c_me.below bq
        replace s_mi := s_mi.below bq
        replace c_mi := c_mi.below bq
        replace o_y6 := o_y6.below bq
        replace bw := bw.trans (bq.mono zw)
        replace zw : g ≤ w74.heap.size := Nat.le_trans zw bq.size
        clear bq
        have CC := ints_yes o_y6.rg o_y7 (rfl)
        go_wp2_with fail
        refine CC.mono ?_
        rintro e w75 ⟨rfl, bq⟩
        clear CC
        replace o_pp := o_pp.below (Nat.le_refl _) bq
        replace o_qq := o_qq.below (Nat.le_refl _) bq
        replace s_ss := s_ss.below bq
        replace c_ss := c_ss.below bq
        replace s_oo := s_oo.below bq
        replace c_oo := c_oo.below bq
        replace s_wi := s_wi.below bq
        replace c_wi := c_wi.below bq
        replace s_wo := s_wo.below bq
        replace c_wo := c_wo.below bq
        replace s_jo := s_jo.below bq
        replace c_jo := c_jo.below bq
        replace s_me := s_me.below bq
        replace c_me := c_me.below bq
        replace s_mi := s_mi.below bq
        replace c_mi := c_mi.below bq
        replace o_y6 := o_y6.below bq
        replace o_y7 := o_y7.below (Nat.le_refl _) bq
        replace bw := bw.trans (bq.mono zw)
        replace zw : g ≤ w75.heap.size := Nat.le_trans zw bq.size
        clear bq
        clear o_y6
        clear o_y7
        have k_me := c_me.cell
        have CC := siList s_me (by omega)
        go_wp2_with fail
        refine CC.mono ?_
        rintro e w76 ⟨y8, rfl, o_y8, bq⟩
        clear CC
        replace o_pp := o_pp.below (Nat.le_refl _) bq
        replace o_qq := o_qq.below (Nat.le_refl _) bq
        replace s_ss := s_ss.below bq
        replace c_ss := c_ss.below bq
        replace s_oo := s_oo.below bq
        replace c_oo := c_oo.below bq
        replace s_wi := s_wi.below bq
        replace c_wi := c_wi.below bq
        replace s_wo := s_wo.below bq
        replace c_wo := c_wo.below bq
        replace s_jo := s_jo.below bq
        replace c_jo := c_jo.below bq
        replace s_me := s_me.below bq
        replace c_me := c_me.below bq
        replace s_mi := s_mi.below bq
        replace c_mi := c_mi.below bq
        replace bw := bw.trans (bq.mono zw)
        replace zw : g ≤ w76.heap.size := Nat.le_trans zw bq.size
        clear bq
        clear k_me
        have CC := rSome _ X _ Y true _ o_pp o_qq (by have := HX.out; omega)
        rw [some_true] at CC
        go_wp2_with fail
        refine CC.mono ?_
        rintro e w77 ⟨y9, rfl, o_y9, bq⟩
        clear CC
        replace o_pp := o_pp.below (Nat.le_refl _) bq
        replace o_qq := o_qq.below (Nat.le_refl _) bq
        replace s_ss := s_ss.below bq
        replace c_ss := c_ss.below bq
        replace s_oo := s_oo.below bq
        replace c_oo := c_oo.below bq
        replace s_wi := s_wi.below bq
        replace c_wi := c_wi.below bq
        replace s_wo := s_wo.below bq
        replace c_wo := c_wo.below bq
        replace s_jo := s_jo.below bq
        replace c_jo := c_jo.below bq
        replace s_me := s_me.below bq
        replace c_me := c_me.below bq
        replace s_mi := s_mi.below bq
        replace c_mi := c_mi.below bq
        replace o_y8 := o_y8.below bq
        replace bw := bw.trans (bq.mono zw)
        replace zw : g ≤ w77.heap.size := Nat.le_trans zw bq.size
        clear bq
        have CC := ints_yes o_y8.rg o_y9.rg (rfl)
        go_wp2_with fail
        refine CC.mono ?_
        rintro e w78 ⟨rfl, bq⟩
        clear CC
        replace o_pp := o_pp.below (Nat.le_refl _) bq
        replace o_qq := o_qq.below (Nat.le_refl _) bq
        replace s_ss := s_ss.below bq
        replace c_ss := c_ss.below bq
        replace s_oo := s_oo.below bq
        replace c_oo := c_oo.below bq
        replace s_wi := s_wi.below bq
        replace c_wi := c_wi.below bq
        replace s_wo := s_wo.below bq
        replace c_wo := c_wo.below bq
        replace s_jo := s_jo.below bq
        replace c_jo := c_jo.below bq
        replace s_me := s_me.below bq
        replace c_me := c_me.below bq
        replace s_mi := s_mi.below bq
        replace c_mi := c_mi.below bq
        replace o_y8 := o_y8.below bq
        replace o_y9 := o_y9.below bq
        replace bw := bw.trans (bq.mono zw)
        replace zw : g ≤ w78.heap.size := Nat.le_trans zw bq.size
        clear bq
        clear o_y8
        clear o_y9
        have k_mi := c_mi.cell
        have CC := siList s_mi (by omega)
        go_wp2_with fail
        refine CC.mono ?_
        rintro e w79 ⟨ya, rfl, o_ya, bq⟩
        clear CC
        replace o_pp := o_pp.below (Nat.le_refl _) bq
        replace o_qq := o_qq.below (Nat.le_refl _) bq
        replace s_ss := s_ss.below bq
        replace c_ss := c_ss.below bq
        replace s_oo := s_oo.below bq
        replace c_oo := c_oo.below bq
        replace s_wi := s_wi.below bq
        replace c_wi := c_wi.below bq
        replace s_wo := s_wo.below bq
        replace c_wo := c_wo.below bq
        replace s_jo := s_jo.below bq
        replace c_jo := c_jo.below bq
        replace s_me := s_me.below bq
        replace c_me := c_me.below bq
        replace s_mi := s_mi.below bq
        replace c_mi := c_mi.below bq
        replace bw := bw.trans (bq.mono zw)
        replace zw : g ≤ w79.heap.size := Nat.le_trans zw bq.size
        clear bq
        clear k_mi
        have CC := rSome _ X _ Y false _ o_pp o_qq (by have := HX.out; omega)
        rw [some_false] at CC
        go_wp2_with fail
        refine CC.mono ?_
        rintro e w80 ⟨yb, rfl, o_yb, bq⟩
        clear CC
        replace o_pp := o_pp.below (Nat.le_refl _) bq
        replace o_qq := o_qq.below (Nat.le_refl _) bq
        replace s_ss := s_ss.below bq
        replace c_ss := c_ss.below bq
        replace s_oo := s_oo.below bq
        replace c_oo := c_oo.below bq
        replace s_wi := s_wi.below bq
        replace c_wi := c_wi.below bq
        replace s_wo := s_wo.below bq
        replace c_wo := c_wo.below bq
        replace s_jo := s_jo.below bq
        replace c_jo := c_jo.below bq
        replace s_me := s_me.below bq
        replace c_me := c_me.below bq
        replace s_mi := s_mi.below bq
        replace c_mi := c_mi.below bq
        replace o_ya := o_ya.below bq
        replace bw := bw.trans (bq.mono zw)
        replace zw : g ≤ w80.heap.size := Nat.le_trans zw bq.size
        clear bq
        have CC := ints_yes o_ya.rg o_yb.rg (rfl)
        go_wp2_with fail
        refine CC.mono ?_
        rintro e w81 ⟨rfl, bq⟩
        clear CC
        replace o_pp := o_pp.below (Nat.le_refl _) bq
        replace o_qq := o_qq.below (Nat.le_refl _) bq
        replace s_ss := s_ss.below bq
        replace c_ss := c_ss.below bq
        replace s_oo := s_oo.below bq
        replace c_oo := c_oo.below bq
        replace s_wi := s_wi.below bq
        replace c_wi := c_wi.below bq
        replace s_wo := s_wo.below bq
        replace c_wo := c_wo.below bq
        replace s_jo := s_jo.below bq
        replace c_jo := c_jo.below bq
        replace s_me := s_me.below bq
        replace c_me := c_me.below bq
        replace s_mi := s_mi.below bq
        replace c_mi := c_mi.below bq
        replace o_ya := o_ya.below bq
        replace o_yb := o_yb.below bq
        replace bw := bw.trans (bq.mono zw)
        replace zw : g ≤ w81.heap.size := Nat.le_trans zw bq.size
        clear bq
        clear o_ya
        clear o_yb
        have k_ss := c_ss.cell
        have CC := siList s_ss (by omega)
        go_wp2_with fail
        refine CC.mono ?_
        rintro e w82 ⟨d1, rfl, o_d1, bq⟩
        clear CC
        replace o_pp := o_pp.below (Nat.le_refl _) bq
        replace o_qq := o_qq.below (Nat.le_refl _) bq
        replace s_ss := s_ss.below bq
        replace c_ss := c_ss.below bq
        replace s_oo := s_oo.below bq
        replace c_oo := c_oo.below bq
        replace s_wi := s_wi.below bq
        replace c_wi := c_wi.below bq
        replace s_wo := s_wo.below bq
        replace c_wo := c_wo.below bq
        replace s_jo := s_jo.below bq
        replace c_jo := c_jo.below bq
        replace s_me := s_me.below bq
        replace c_me := c_me.below bq
        replace s_mi := s_mi.below bq
        replace c_mi := c_mi.below bq
        replace bw := bw.trans (bq.mono zw)
        replace zw : g ≤ w82.heap.size := Nat.le_trans zw bq.size
        clear bq
        clear k_ss
        have CC := ints_yes o_d1.rg o_pp (rfl)
        go_wp2_with fail
        refine CC.mono ?_
        rintro e w83 ⟨rfl, bq⟩
        clear CC
        replace o_pp := o_pp.below (Nat.le_refl _) bq
        replace o_qq := o_qq.below (Nat.le_refl _) bq
        replace s_ss := s_ss.below bq
        replace c_ss := c_ss.below bq
        replace s_oo := s_oo.below bq
        replace c_oo := c_oo.below bq
        replace s_wi := s_wi.below bq
        replace c_wi := c_wi.below bq
        replace s_wo := s_wo.below bq
        replace c_wo := c_wo.below bq
        replace s_jo := s_jo.below bq
        replace c_jo := c_jo.below bq
        replace s_me := s_me.below bq
        replace c_me := c_me.below bq
        replace s_mi := s_mi.below bq
        replace c_mi := c_mi.below bq
        replace o_d1 := o_d1.below bq
        replace bw := bw.trans (bq.mono zw)
        replace zw : g ≤ w83.heap.size := Nat.le_trans zw bq.size
        clear bq
        clear o_d1
        have k_oo := c_oo.cell
        have CC := siList s_oo (by omega)
        go_wp2_with fail
        refine CC.mono ?_
        rintro e w84 ⟨d2, rfl, o_d2, bq⟩
        clear CC
        replace o_pp := o_pp.below (Nat.le_refl _) bq
        replace o_qq := o_qq.below (Nat.le_refl _) bq
        replace s_ss := s_ss.below bq
        replace c_ss := c_ss.below bq
        replace s_oo := s_oo.below bq
        replace c_oo := c_oo.below bq
        replace s_wi := s_wi.below bq
        replace c_wi := c_wi.below bq
        replace s_wo := s_wo.below bq
        replace c_wo := c_wo.below bq
        replace s_jo := s_jo.below bq
        replace c_jo := c_jo.below bq
        replace s_me := s_me.below bq
        replace c_me := c_me.below bq
        replace s_mi := s_mi.below bq
        replace c_mi := c_mi.below bq
        replace bw := bw.trans (bq.mono zw)
        replace zw : g ≤ w84.heap.size := Nat.le_trans zw bq.size
        clear bq
        clear k_oo
        have CC := ints_yes o_d2.rg o_qq (rfl)
        go_wp2_with fail
        refine CC.mono ?_
        rintro e w85 ⟨rfl, bq⟩
        clear CC
        replace o_pp := o_pp.below (Nat.le_refl _) bq
        replace o_qq := o_qq.below (Nat.le_refl _) bq
        replace s_ss := s_ss.below bq
        replace c_ss := c_ss.below bq
        replace s_oo := s_oo.below bq
        replace c_oo := c_oo.below bq
        replace s_wi := s_wi.below bq
        replace c_wi := c_wi.below bq
        replace s_wo := s_wo.below bq
        replace c_wo := c_wo.below bq
        replace s_jo := s_jo.below bq
        replace c_jo := c_jo.below bq
        replace s_me := s_me.below bq
        replace c_me := c_me.below bq
        replace s_mi := s_mi.below bq
        replace c_mi := c_mi.below bq
        replace o_d2 := o_d2.below bq
        replace bw := bw.trans (bq.mono zw)
        replace zw : g ≤ w85.heap.size := Nat.le_trans zw bq.size
        clear bq
        clear o_d2
        go_wp2
        go_ret
        exact ⟨rfl, bw⟩
end Go.Proofs.Ytphmamdmkhaemaa
