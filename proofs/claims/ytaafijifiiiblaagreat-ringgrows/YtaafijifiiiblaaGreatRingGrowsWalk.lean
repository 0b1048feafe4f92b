/-
  Proved here: RingGrows's own walk.
-/
import Derived.Test.YtaafijifiiiblaaGreatRingGM
import Derived.Deep.CutRange
namespace Go.Proofs.YtaafijifiiiblaaGreat
open Go.RowKit
theorem rnum_mono {w : World} {v : Value} {x : Rat} {L M : Nat} (h : RNum w v x L) (hm : L ≤ M) : RNum w v x M := by
  obtain ⟨p, q, h1, h2, h3, h4⟩ := h
  exact ⟨p, q, h1, h2, h3.mono hm, h4.mono hm⟩
theorem cmp_self (x : Rat) : cmpQ x x = 0 := by unfold cmpQ cmpZ; simp
set_option maxRecDepth 1000000 in
set_option maxHeartbeats 64000000 in
theorem ringGrows_top (lo : Option Addr) (n0 cap : Nat) (F : Nat → FV) (nx : Bool) (xo xO : Option Addr) (xl xc xL xC : Nat) (xs ys : List Nat) (w : World) (hrow : FRow w lo n0 F) (hn63 : n0 ≤ maxLen) (wa : Num w (.slice xo xl xc) xs) (wb : Num w (.slice xO xL xC) ys) :
    Calls Tryz.prog 8 #[.slice lo n0 cap, .agg #[.bool nx, .slice xo xl xc, .slice xO xL xC]] w fun e w' => e = .returned (.bool true) ∧ Below w.heap.size w w' := by
  unfold maxLen at hn63
  obtain ⟨xl2, hxl2⟩ : ∃ l, l = min xl 2 := ⟨_, rfl⟩
  obtain ⟨xL2, hxL2⟩ : ∃ l, l = min xL 2 := ⟨_, rfl⟩
  have hxA : (⟨nx, xo, xl, xc, xO, xL, xC, xs, ys⟩ : FV).At w := ⟨wa, wb⟩
  obtain ⟨x, hx⟩ : ∃ x, x = rq (zv nx (val ((⟨nx, xo, xl, xc, xO, xL, xC, xs, ys⟩ : FV).cut 2).xs)) (val ((⟨nx, xo, xl, xc, xO, xL, xC, xs, ys⟩ : FV).cut 2).ys) := ⟨_, rfl⟩
  have RX : Hid (∀ W, Below w.heap.size w W → RNum W (.agg #[.bool nx, .slice xo xl2 xc, .slice xO xL2 xC]) x 2) := fun W h => by rw [hx, hxl2, hxL2]; exact rnum_fv ((hxA.below h).cut 2) (FV.cut_len _ 2).1 (FV.cut_len _ 2).2 (by decide) (by decide)
  obtain ⟨c, hc⟩ : ∃ c : Nat → Rat, c = fun i => if i < n0 then rq (zv (F i).n (val ((F i).cut 2).xs)) (val ((F i).cut 2).ys) else 0 := ⟨_, rfl⟩
  have HF : Hid (FRow w lo n0 F) := hrow
  have RC : Hid (∀ W, Below w.heap.size w W → ∀ i, i < n0 → RNum W (.agg #[.bool (F i).n, .slice (F i).ao (min (F i).al 2) (F i).ac, .slice (F i).bo (min (F i).bl 2) (F i).bc]) (c i) 2) := fun W h i hi => by rw [hc]; simp only [if_pos hi]; exact rnum_fv ((((hrow.below h) i hi).2).cut 2) (FV.cut_len _ 2).1 (FV.cut_len _ 2).2 (by decide) (by decide)
  have SX : RSz x 2 := (RX.out w (Below.refl _ _)).sz
  have SP_ : Hid (∀ i, i ≤ 8 → RSz (sp1 x i) 20 ∧ RSz (sp2 x 1 i) 20) := sz_sp SX
  have SC : ∀ i, RSz (c i) 2 := fun i => by
    by_cases hi : i < n0
    · exact (RC.out w (Below.refl _ _) i hi).sz
    · rw [hc]; simp only [if_neg hi]; exact (RSz.zero).mono (by decide)
  have SV : Hid (∀ i, i ≤ 8 → RSz (VA c x i) 400 ∧ RSz (SB c x i) 400) := fun i hi => by obtain ⟨h1, h2⟩ := sz_VA SX SC i hi; exact ⟨h1.mono (by omega), h2.mono (by omega)⟩
  have HX0 : Hid (Num w (.slice xo xl xc) xs ∧ Num w (.slice xO xL xC) ys) := ⟨wa, wb⟩
  have HXL : Hid (xl2 = min xl 2 ∧ xL2 = min xL 2) := ⟨hxl2, hxL2⟩
  clear hx hc hrow SX SC hxA wa wb hxl2 hxL2
  obtain ⟨W1, hW1⟩ : ∃ W1, W1 = w.alloc (.cells #[.bool nx, .slice xo xl xc, .slice xO xL xC] 27) := ⟨_, rfl⟩
  have qX : QCell W1 (w.heap.size) nx (.slice xo xl xc) (.slice xO xL xC) := by rw [hW1]; exact (qcell_new _ rfl)
  have bw : Below w.heap.size w W1 := by rw [hW1]; exact belowA w _
  have zw : w.heap.size + 1 ≤ W1.heap.size := by rw [hW1]; simp
  obtain ⟨g, hg⟩ : ∃ g, g = w.heap.size := ⟨_, rfl⟩
  rw [← hg] at qX bw zw
  have HW1 : Hid (W1 = w.alloc (.cells #[.bool nx, .slice xo xl xc, .slice xO xL xC] 27)) := hW1
  have HG : Hid (g = w.heap.size) := hg
  clear hW1 hg
  have H_qX : Hid (QCell W1 (g) nx (.slice xo xl xc) (.slice xO xL xC)) := qX
  have H_bw : Hid (Below g w W1) := bw
  have H_zw : Hid (g + 1 ≤ W1.heap.size) := zw
  clear qX bw zw
  go_enter Tryz.func8, Tryz.ntmps8
  go_upto_region 1 with fail
  rw [← HW1.out, ← HG.out]
  clear HW1
  have qX := H_qX.out
  have bw := H_bw.out
  have zw := H_zw.out
  clear H_qX H_bw H_zw
  have CC : Hid _ := awake12 W1
  have H_qX : Hid (QCell W1 (g) nx (.slice xo xl xc) (.slice xO xL xC)) := qX
  have H_bw : Hid (Below g w W1) := bw
  have H_zw : Hid (g + 1 ≤ W1.heap.size) := zw
  clear qX bw zw
  go_wp2_with fail
  refine Calls.mono CC.out ?_
  rintro e x1 ⟨rfl, b1⟩
  clear CC 
  have qX := H_qX.out
  have bw := H_bw.out
  have zw := H_zw.out
  clear H_qX H_bw H_zw
  replace qX := qX.below b1
  replace bw := bw.trans (b1.mono (by omega))
  replace zw := Nat.le_trans zw b1.size
  clear b1
  have CC : Hid _ := (by have h := c_cut nx xo xO xl xc xL xC 2 xs ys x1 (HX0.out.1.below (Nat.le_refl _) (by rw [← HG.out]; exact bw)) (HX0.out.2.below (Nat.le_refl _) (by rw [← HG.out]; exact bw)) (by decide); rw [← HXL.out.1, ← HXL.out.2] at h; exact h)
  obtain ⟨cX0, cX1, cX2⟩ := qX.cells
  have H_qX : Hid (QCell x1 (g) nx (.slice xo xl xc) (.slice xO xL xC)) := qX
  have H_bw : Hid (Below g w x1) := bw
  have H_zw : Hid (g + 1 ≤ x1.heap.size) := zw
  clear qX bw zw
  go_wp2_with fail
  refine Calls.mono CC.out ?_
  rintro e x2 ⟨rfl, b2⟩
  clear CC cX0 cX1 cX2
  have qX := H_qX.out
  have bw := H_bw.out
  have zw := H_zw.out
  clear H_qX H_bw H_zw
  replace qX := qX.below b2
  replace bw := bw.trans (b2.mono (by omega))
  replace zw := Nat.le_trans zw b2.size
  clear b2
  have N_qX : Hid (QCell (((x2.setCell ⟨g, 0, none⟩ (.bool nx)).setCell ⟨g, 1, none⟩ (.slice xo xl2 xc)).setCell ⟨g, 2, none⟩ (.slice xO xL2 xC)) (g) nx (.slice xo xl2 xc) (.slice xO xL2 xC)) := qX.write _ _ _
  have N_bw : Hid (Below g w (((x2.setCell ⟨g, 0, none⟩ (.bool nx)).setCell ⟨g, 1, none⟩ (.slice xo xl2 xc)).setCell ⟨g, 2, none⟩ (.slice xO xL2 xC))) := (((bw).setCell (p := ⟨g, 0, none⟩) (by show g ≤ g; omega) _).setCell (p := ⟨g, 1, none⟩) (by show g ≤ g; omega) _).setCell (p := ⟨g, 2, none⟩) (by show g ≤ g; omega) _
  have N_zw : Hid (g + 1 ≤ (((x2.setCell ⟨g, 0, none⟩ (.bool nx)).setCell ⟨g, 1, none⟩ (.slice xo xl2 xc)).setCell ⟨g, 2, none⟩ (.slice xO xL2 xC)).heap.size) := by show _ ≤ _; simpa [World.setCell] using zw
  obtain ⟨cX0, cX1, cX2⟩ := qX.cells
  have f0 := qX.thaw 0
  have f1 := qX.thaw 1
  have f2 := qX.thaw 2
  clear qX bw zw
  go_upto_region 3 with fail
  obtain ⟨y3, hy3⟩ : ∃ u, u = (((x2.setCell ⟨g, 0, none⟩ (.bool nx)).setCell ⟨g, 1, none⟩ (.slice xo xl2 xc)).setCell ⟨g, 2, none⟩ (.slice xO xL2 xC)) := ⟨_, rfl⟩
  rw [← hy3] at N_qX N_bw N_zw ⊢
  clear hy3 f0 f1 f2 cX0 cX1 cX2
  have qX := N_qX.out
  have bw := N_bw.out
  have zw := N_zw.out
  clear N_qX N_bw N_zw
  obtain ⟨WE, hWE⟩ : ∃ u, u = y3.alloc (.cells #[] 45) := ⟨_, rfl⟩
  obtain ⟨aE, haE⟩ : ∃ s, s = y3.heap.size := ⟨_, rfl⟩
  have bq : Below y3.heap.size y3 WE := by rw [hWE]; exact belowA _ _
  have HWE : Hid (WE = y3.alloc (.cells #[] 45)) := hWE
  have HaE : Hid (aE = y3.heap.size) := haE
  clear hWE haE
  replace qX := qX.below bq
  replace bw := bw.trans (bq.mono (by omega))
  replace zw := Nat.le_trans zw bq.size
  clear bq
  have H_qX : Hid (QCell WE (g) nx (.slice xo xl2 xc) (.slice xO xL2 xC)) := qX
  have H_bw : Hid (Below g w WE) := bw
  have H_zw : Hid (g + 1 ≤ WE.heap.size) := zw
  clear qX bw zw
  go_upto_region 4 with fail
  rw [← HWE.out, ← HaE.out]
  clear HWE HaE
  have qX := H_qX.out
  have bw := H_bw.out
  have zw := H_zw.out
  clear H_qX H_bw H_zw
  have CC : Hid _ := c_rsum none 0 0 0 (fun _ => 0) 1 WE (fun h => absurd h (Nat.lt_irrefl _)) (fun i hi => absurd hi (Nat.not_lt_zero _)) (by decide)
  have H_qX : Hid (QCell WE (g) nx (.slice xo xl2 xc) (.slice xO xL2 xC)) := qX
  have H_bw : Hid (Below g w WE) := bw
  have H_zw : Hid (g + 1 ≤ WE.heap.size) := zw
  clear qX bw zw
  go_wp2_with fail
  refine Calls.mono CC.out ?_
  rintro e x4 ⟨v, rfl, hp, b4⟩
  clear CC 
  have qX := H_qX.out
  have bw := H_bw.out
  have zw := H_zw.out
  clear H_qX H_bw H_zw
  replace qX := qX.below b4
  replace bw := bw.trans (b4.mono (by omega))
  replace zw := Nat.le_trans zw b4.size
  clear b4
  obtain ⟨np, po, pl, pc, pO, pL, pC, rfl⟩ := hp.seeV
  have rp : RNum x4 (.agg #[.bool np, .slice po pl pc, .slice pO pL pC]) (VA c x 0) 400 := hp.nm (L := 400) (r := 0) ((RSz.zero).mono (by decide)) (by decide)
  clear hp
  obtain ⟨V5, hV5⟩ : ∃ u, u = x4.alloc (.cells #[.bool np, .slice po pl pc, .slice pO pL pC] 27) := ⟨_, rfl⟩
  obtain ⟨ap, hap⟩ : ∃ s, s = x4.heap.size := ⟨_, rfl⟩
  have qp : QCell V5 (ap) np (.slice po pl pc) (.slice pO pL pC) := by rw [hV5]; exact qcell_new _ hap.symm
  have bq : Below x4.heap.size x4 V5 := by rw [hV5]; exact belowA _ _
  have lp : g + 1 ≤ ap := by rw [hap]; exact zw
  have HV5 : Hid (V5 = x4.alloc (.cells #[.bool np, .slice po pl pc, .slice pO pL pC] 27)) := hV5
  have Hap : Hid (ap = x4.heap.size) := hap
  clear hV5 hap
  replace qX := qX.below bq
  replace rp := rp.below bq
  replace bw := bw.trans (bq.mono (by omega))
  replace zw := Nat.le_trans zw bq.size
  clear bq
  have H_qX : Hid (QCell V5 (g) nx (.slice xo xl2 xc) (.slice xO xL2 xC)) := qX
  have H_rp : Hid (RNum V5 (.agg #[.bool np, .slice po pl pc, .slice pO pL pC]) (VA c x 0)  400) := rp
  have H_qp : Hid (QCell V5 (ap) np (.slice po pl pc) (.slice pO pL pC)) := qp
  have H_bw : Hid (Below g w V5) := bw
  have H_zw : Hid (g + 1 ≤ V5.heap.size) := zw
  clear qX rp qp bw zw
  go_upto_region 5 with fail
  rw [← HV5.out, ← Hap.out]
  clear HV5 Hap
  have qX := H_qX.out
  have rp := H_rp.out
  have qp := H_qp.out
  have bw := H_bw.out
  have zw := H_zw.out
  clear H_qX H_rp H_qp H_bw H_zw
  have lpX : g + 1 ≤ ap := lp
  clear lp
  have CC : Hid _ := c_rsum none 0 0 0 (fun _ => 0) 1 V5 (fun h => absurd h (Nat.lt_irrefl _)) (fun i hi => absurd hi (Nat.not_lt_zero _)) (by decide)
  have H_qX : Hid (QCell V5 (g) nx (.slice xo xl2 xc) (.slice xO xL2 xC)) := qX
  have H_rp : Hid (RNum V5 (.agg #[.bool np, .slice po pl pc, .slice pO pL pC]) (VA c x 0)  400) := rp
  have H_qp : Hid (QCell V5 (ap) np (.slice po pl pc) (.slice pO pL pC)) := qp
  have H_bw : Hid (Below g w V5) := bw
  have H_zw : Hid (g + 1 ≤ V5.heap.size) := zw
  clear qX rp qp bw zw
  go_wp2_with fail
  refine Calls.mono CC.out ?_
  rintro e x6 ⟨v, rfl, hq, b6⟩
  clear CC 
  have qX := H_qX.out
  have rp := H_rp.out
  have qp := H_qp.out
  have bw := H_bw.out
  have zw := H_zw.out
  clear H_qX H_rp H_qp H_bw H_zw
  replace qX := qX.below b6
  replace rp := rp.below b6
  replace qp := qp.below b6
  replace bw := bw.trans (b6.mono (by omega))
  replace zw := Nat.le_trans zw b6.size
  clear b6
  obtain ⟨nq, qo, ql, qc, qO, qL, qC, rfl⟩ := hq.seeV
  have rq : RNum x6 (.agg #[.bool nq, .slice qo ql qc, .slice qO qL qC]) (SB c x 0) 400 := hq.nm (L := 400) (r := 0) ((RSz.zero).mono (by decide)) (by decide)
  clear hq
  obtain ⟨V7, hV7⟩ : ∃ u, u = x6.alloc (.cells #[.bool nq, .slice qo ql qc, .slice qO qL qC] 27) := ⟨_, rfl⟩
  obtain ⟨aq, haq⟩ : ∃ s, s = x6.heap.size := ⟨_, rfl⟩
  have qq : QCell V7 (aq) nq (.slice qo ql qc) (.slice qO qL qC) := by rw [hV7]; exact qcell_new _ haq.symm
  have bq : Below x6.heap.size x6 V7 := by rw [hV7]; exact belowA _ _
  have lq : g + 1 ≤ aq := by rw [haq]; exact zw
  have lpq : ap < aq := by rw [haq]; exact qp.ltR
  have HV7 : Hid (V7 = x6.alloc (.cells #[.bool nq, .slice qo ql qc, .slice qO qL qC] 27)) := hV7
  have Haq : Hid (aq = x6.heap.size) := haq
  clear hV7 haq
  replace qX := qX.below bq
  replace rp := rp.below bq
  replace qp := qp.below bq
  replace rq := rq.below bq
  replace bw := bw.trans (bq.mono (by omega))
  replace zw := Nat.le_trans zw bq.size
  clear bq
  have H_qX : Hid (QCell V7 (g) nx (.slice xo xl2 xc) (.slice xO xL2 xC)) := qX
  have H_rp : Hid (RNum V7 (.agg #[.bool np, .slice po pl pc, .slice pO pL pC]) (VA c x 0)  400) := rp
  have H_qp : Hid (QCell V7 (ap) np (.slice po pl pc) (.slice pO pL pC)) := qp
  have H_rq : Hid (RNum V7 (.agg #[.bool nq, .slice qo ql qc, .slice qO qL qC]) (SB c x 0)  400) := rq
  have H_qq : Hid (QCell V7 (aq) nq (.slice qo ql qc) (.slice qO qL qC)) := qq
  have H_bw : Hid (Below g w V7) := bw
  have H_zw : Hid (g + 1 ≤ V7.heap.size) := zw
  clear qX rp qp rq qq bw zw
  go_upto_region 6 with fail
  rw [← HV7.out, ← Haq.out]
  clear HV7 Haq
  have qX := H_qX.out
  have rp := H_rp.out
  have qp := H_qp.out
  have rq := H_rq.out
  have qq := H_qq.out
  have bw := H_bw.out
  have zw := H_zw.out
  clear H_qX H_rp H_qp H_rq H_qq H_bw H_zw
  clear lq
  have CC : Hid _ := slopesZero V7
  have H_qX : Hid (QCell V7 (g) nx (.slice xo xl2 xc) (.slice xO xL2 xC)) := qX
  have H_rp : Hid (RNum V7 (.agg #[.bool np, .slice po pl pc, .slice pO pL pC]) (VA c x 0)  400) := rp
  have H_qp : Hid (QCell V7 (ap) np (.slice po pl pc) (.slice pO pL pC)) := qp
  have H_rq : Hid (RNum V7 (.agg #[.bool nq, .slice qo ql qc, .slice qO qL qC]) (SB c x 0)  400) := rq
  have H_qq : Hid (QCell V7 (aq) nq (.slice qo ql qc) (.slice qO qL qC)) := qq
  have H_bw : Hid (Below g w V7) := bw
  have H_zw : Hid (g + 1 ≤ V7.heap.size) := zw
  clear qX rp qp rq qq bw zw
  go_wp2_with fail
  refine Calls.mono CC.out ?_
  rintro e x8 ⟨nm, mo, ml, mc, mO, mL, mC, mm, mp, mq, mr, mP, mQ, mR, rfl, hm1, hm2, b8⟩
  clear CC 
  have qX := H_qX.out
  have rp := H_rp.out
  have qp := H_qp.out
  have rq := H_rq.out
  have qq := H_qq.out
  have bw := H_bw.out
  have zw := H_zw.out
  clear H_qX H_rp H_qp H_rq H_qq H_bw H_zw
  replace qX := qX.below b8
  replace rp := rp.below b8
  replace qp := qp.below b8
  replace rq := rq.below b8
  replace qq := qq.below b8
  replace bw := bw.trans (b8.mono (by omega))
  replace zw := Nat.le_trans zw b8.size
  clear b8
  have rm1 : RNum x8 (.agg #[.bool nm, .slice mo ml mc, .slice mO mL mC]) (VA c x 0) 400 := hm1.nm (L := 400) (r := 0) ((RSz.zero).mono (by decide)) (by decide)
  have rm2 : RNum x8 (.agg #[.bool mm, .slice mp mq mr, .slice mP mQ mR]) (SB c x 0) 400 := hm2.nm (L := 400) (r := 0) ((RSz.zero).mono (by decide)) (by decide)
  clear hm1 hm2
  obtain ⟨WM, hWM⟩ : ∃ u, u = x8.alloc (.cells #[.bool nm, .slice mo ml mc, .slice mO mL mC, .bool mm, .slice mp mq mr, .slice mP mQ mR] 43) := ⟨_, rfl⟩
  obtain ⟨aM, haM⟩ : ∃ s, s = x8.heap.size := ⟨_, rfl⟩
  have qM : SlC WM (aM) nm (.slice mo ml mc) (.slice mO mL mC) mm (.slice mp mq mr) (.slice mP mQ mR) := by rw [hWM]; exact slc_new _ haM.symm
  have nqM : ap < aM ∧ aq < aM ∧ g < aM := by rw [haM]; exact ⟨qp.ltR, qq.ltR, by omega⟩
  have bq : Below x8.heap.size x8 WM := by rw [hWM]; exact belowA _ _
  have HWM : Hid (WM = x8.alloc (.cells #[.bool nm, .slice mo ml mc, .slice mO mL mC, .bool mm, .slice mp mq mr, .slice mP mQ mR] 43)) := hWM
  have HaM : Hid (aM = x8.heap.size) := haM
  clear hWM haM
  replace qX := qX.below bq
  replace rp := rp.below bq
  replace qp := qp.below bq
  replace rq := rq.below bq
  replace qq := qq.below bq
  replace rm1 := rm1.below bq
  replace rm2 := rm2.below bq
  replace bw := bw.trans (bq.mono (by omega))
  replace zw := Nat.le_trans zw bq.size
  clear bq
  have H_qX : Hid (QCell WM (g) nx (.slice xo xl2 xc) (.slice xO xL2 xC)) := qX
  have H_rp : Hid (RNum WM (.agg #[.bool np, .slice po pl pc, .slice pO pL pC]) (VA c x 0)  400) := rp
  have H_qp : Hid (QCell WM (ap) np (.slice po pl pc) (.slice pO pL pC)) := qp
  have H_rq : Hid (RNum WM (.agg #[.bool nq, .slice qo ql qc, .slice qO qL qC]) (SB c x 0)  400) := rq
  have H_qq : Hid (QCell WM (aq) nq (.slice qo ql qc) (.slice qO qL qC)) := qq
  have H_rm1 : Hid (RNum WM (.agg #[.bool nm, .slice mo ml mc, .slice mO mL mC]) (VA c x 0) 400) := rm1
  have H_rm2 : Hid (RNum WM (.agg #[.bool mm, .slice mp mq mr, .slice mP mQ mR]) (SB c x 0) 400) := rm2
  have H_qM : Hid (SlC WM (aM) nm (.slice mo ml mc) (.slice mO mL mC) mm (.slice mp mq mr) (.slice mP mQ mR)) := qM
  have H_bw : Hid (Below g w WM) := bw
  have H_zw : Hid (g + 1 ≤ WM.heap.size) := zw
  clear qX rp qp rq qq rm1 rm2 qM bw zw
  go_upto_region 7 with fail
  rw [← HWM.out, ← HaM.out]
  clear HWM HaM
  have qX := H_qX.out
  have rp := H_rp.out
  have qp := H_qp.out
  have rq := H_rq.out
  have qq := H_qq.out
  have rm1 := H_rm1.out
  have rm2 := H_rm2.out
  have qM := H_qM.out
  have bw := H_bw.out
  have zw := H_zw.out
  clear H_qX H_rp H_qp H_rq H_qq H_rm1 H_rm2 H_qM H_bw H_zw
  have HAP : Hid (g < ap ∧ g < aq ∧ ap ≠ aq ∧ ap < aM ∧ aq < aM ∧ g < aM) := ⟨by omega, by omega, by omega, nqM.1, nqM.2.1, nqM.2.2⟩
  clear nqM lpq
  have H0 : Hid (QCell WM (g) nx (.slice xo xl2 xc) (.slice xO xL2 xC) ∧ QCell WM (ap) np (.slice po pl pc) (.slice pO pL pC) ∧ RNum WM (.agg #[.bool np, .slice po pl pc, .slice pO pL pC]) (VA c x 0) 400 ∧ QCell WM (aq) nq (.slice qo ql qc) (.slice qO qL qC) ∧ RNum WM (.agg #[.bool nq, .slice qo ql qc, .slice qO qL qC]) (SB c x 0) 400 ∧ SlC WM (aM) nm (.slice mo ml mc) (.slice mO mL mC) mm (.slice mp mq mr) (.slice mP mQ mR) ∧ RNum WM (.agg #[.bool nm, .slice mo ml mc, .slice mO mL mC]) (VA c x 0) 400 ∧ RNum WM (.agg #[.bool mm, .slice mp mq mr, .slice mP mQ mR]) (SB c x 0) 400 ∧ Below g w WM ∧ g + 1 ≤ WM.heap.size) := ⟨qX, qp, rp, qq, rq, qM, rm1, rm2, bw, zw⟩
  clear lpX qX rp qp rq qq rm1 rm2 qM bw zw
  obtain ⟨m0, hm0⟩ : ∃ m, m = min n0 8 := ⟨_, rfl⟩
  have hm8 : m0 ≤ 8 := by omega
  have hmn : m0 ≤ n0 := by omega
  have HM0 : Hid (m0 = min n0 8) := hm0
  clear hm0
  go_wp2
  go_loopg [10] m0 (fun g1 v10 wr => ∃ (i : Nat) (np : Bool) (po : Option Addr) (pl pc : Nat) (pO : Option Addr) (pL pC : Nat) (nq : Bool) (qo : Option Addr) (ql qc : Nat) (qO : Option Addr) (qL qC : Nat) (nm : Bool) (mo : Option Addr) (ml mc : Nat) (mO : Option Addr) (mL mC : Nat) (mm : Bool) (mp : Option Addr) (mq mr : Nat) (mP : Option Addr) (mQ mR : Nat), v10 = .int .i64 i ∧ i ≤ m0 ∧ m0 - i ≤ g1 ∧ Hid (QCell wr (g) nx (.slice xo xl2 xc) (.slice xO xL2 xC) ∧ QCell wr (ap) np (.slice po pl pc) (.slice pO pL pC) ∧ RNum wr (.agg #[.bool np, .slice po pl pc, .slice pO pL pC]) (VA c x i) 400 ∧ QCell wr (aq) nq (.slice qo ql qc) (.slice qO qL qC) ∧ RNum wr (.agg #[.bool nq, .slice qo ql qc, .slice qO qL qC]) (SB c x i) 400 ∧ SlC wr (aM) nm (.slice mo ml mc) (.slice mO mL mC) mm (.slice mp mq mr) (.slice mP mQ mR) ∧ RNum wr (.agg #[.bool nm, .slice mo ml mc, .slice mO mL mC]) (VA c x i) 400 ∧ RNum wr (.agg #[.bool mm, .slice mp mq mr, .slice mP mQ mR]) (SB c x i) 400 ∧ Below g w wr ∧ g + 1 ≤ wr.heap.size))
  case atStart => exact ⟨0, _, _, _, _, _, _, _, _, _, _, _, _, _, _, _, _, _, _, _, _, _, _, _, _, _, _, _, _, rfl, Nat.zero_le _, by omega, H0⟩
  case round =>
    clear H0
    obtain ⟨i, np, po, pl, pc, pO, pL, pC, nq, qo, ql, qc, qO, qL, qC, nm, mo, ml, mc, mO, mL, mC, mm, mp, mq, mr, mP, mQ, mR, rfl, hin, hg1, HB⟩ := hrel
    obtain ⟨qX, qp, rp, qq, rq, qM, rm1, rm2, bw, zw⟩ := HB.out
    clear HB
    by_cases hlt : i < m0
    · have hlt1 : (i : Int) < (n0 : Int) := by omega
      have hlt2 : (i : Int) < 8 := by omega
      obtain ⟨⟨b0, off, rfl, k0, k1, k2⟩, hA⟩ := (HF.out.below (by rw [← HG.out]; exact bw)) i (by omega)
      have RCi : Hid (∀ W, Below w.heap.size w W → RNum W (.agg #[.bool (F i).n, .slice (F i).ao (min (F i).al 2) (F i).ac, .slice (F i).bo (min (F i).bl 2) (F i).bc]) (c i) 2) := fun W h => RC.out W h i (by omega)
      obtain ⟨f, hf⟩ : ∃ f, f = F i := ⟨_, rfl⟩
      rw [← hf] at k0 k1 k2 hA RCi
      clear hf
      obtain ⟨ne, eo, el0, ec, eO, eL0, eC, exs, eys⟩ := f
      obtain ⟨hA1, hA2⟩ := hA
      simp only at k0 k1 k2 hA1 hA2 RCi
      obtain ⟨el, hel⟩ : ∃ l, l = min el0 2 := ⟨_, rfl⟩
      obtain ⟨eL, heL⟩ : ∃ l, l = min eL0 2 := ⟨_, rfl⟩
      rw [← hel, ← heL] at RCi
      have CC : Hid _ := (by have h := c_cut ne eo eO el0 ec eL0 eC 2 exs eys wr hA1 hA2 (by decide); rw [← hel, ← heL] at h; exact h)
      have H_qX : Hid (QCell wr (g) nx (.slice xo xl2 xc) (.slice xO xL2 xC)) := qX
      have H_qp : Hid (QCell wr (ap) np (.slice po pl pc) (.slice pO pL pC)) := qp
      have H_rp : Hid (RNum wr (.agg #[.bool np, .slice po pl pc, .slice pO pL pC]) (VA c x i) 400) := rp
      have H_qq : Hid (QCell wr (aq) nq (.slice qo ql qc) (.slice qO qL qC)) := qq
      have H_rq : Hid (RNum wr (.agg #[.bool nq, .slice qo ql qc, .slice qO qL qC]) (SB c x i) 400) := rq
      have H_qM : Hid (SlC wr (aM) nm (.slice mo ml mc) (.slice mO mL mC) mm (.slice mp mq mr) (.slice mP mQ mR)) := qM
      have H_rm1 : Hid (RNum wr (.agg #[.bool nm, .slice mo ml mc, .slice mO mL mC]) (VA c x i) 400) := rm1
      have H_rm2 : Hid (RNum wr (.agg #[.bool mm, .slice mp mq mr, .slice mP mQ mR]) (SB c x i) 400) := rm2
      have H_bw : Hid (Below g w wr) := bw
      have H_zw : Hid (g + 1 ≤ wr.heap.size) := zw
      clear qX qp rp qq rq qM rm1 rm2 bw zw
      go_wp2_with fail
      refine Calls.mono CC.out ?_
      rintro e x9 ⟨rfl, b9⟩
      clear CC 
      have qX := H_qX.out
      have qp := H_qp.out
      have rp := H_rp.out
      have qq := H_qq.out
      have rq := H_rq.out
      have qM := H_qM.out
      have rm1 := H_rm1.out
      have rm2 := H_rm2.out
      have bw := H_bw.out
      have zw := H_zw.out
      clear H_qX H_qp H_rp H_qq H_rq H_qM H_rm1 H_rm2 H_bw H_zw
      clear hA1 hA2 hel heL k0 k1 k2
      replace qX := qX.below b9
      replace qp := qp.below b9
      replace rp := rp.below b9
      replace qq := qq.below b9
      replace rq := rq.below b9
      replace qM := qM.below b9
      replace rm1 := rm1.below b9
      replace rm2 := rm2.below b9
      replace bw := bw.trans (b9.mono (by omega))
      replace zw := Nat.le_trans zw b9.size
      clear b9
      obtain ⟨V10, hV10⟩ : ∃ u, u = x9.alloc (.cells #[.bool ne, .slice eo el ec, .slice eO eL eC] 27) := ⟨_, rfl⟩
      obtain ⟨aCc, haCc⟩ : ∃ s, s = x9.heap.size := ⟨_, rfl⟩
      have qCc : QCell V10 (aCc) ne (.slice eo el ec) (.slice eO eL eC) := by rw [hV10]; exact qcell_new _ haCc.symm
      have bq : Below x9.heap.size x9 V10 := by rw [hV10]; exact belowA _ _
      have lCc : g + 1 ≤ aCc := by rw [haCc]; exact zw
      have neC : ap < aCc ∧ aq < aCc ∧ aM < aCc := by rw [haCc]; exact ⟨qp.ltR, qq.ltR, qM.lt⟩
      have HV10 : Hid (V10 = x9.alloc (.cells #[.bool ne, .slice eo el ec, .slice eO eL eC] 27)) := hV10
      have HaCc : Hid (aCc = x9.heap.size) := haCc
      clear hV10 haCc
      replace qX := qX.below bq
      replace qp := qp.below bq
      replace rp := rp.below bq
      replace qq := qq.below bq
      replace rq := rq.below bq
      replace qM := qM.below bq
      replace rm1 := rm1.below bq
      replace rm2 := rm2.below bq
      replace bw := bw.trans (bq.mono (by omega))
      replace zw := Nat.le_trans zw bq.size
      clear bq
      have H_qX : Hid (QCell V10 (g) nx (.slice xo xl2 xc) (.slice xO xL2 xC)) := qX
      have H_qp : Hid (QCell V10 (ap) np (.slice po pl pc) (.slice pO pL pC)) := qp
      have H_rp : Hid (RNum V10 (.agg #[.bool np, .slice po pl pc, .slice pO pL pC]) (VA c x i) 400) := rp
      have H_qq : Hid (QCell V10 (aq) nq (.slice qo ql qc) (.slice qO qL qC)) := qq
      have H_rq : Hid (RNum V10 (.agg #[.bool nq, .slice qo ql qc, .slice qO qL qC]) (SB c x i) 400) := rq
      have H_qM : Hid (SlC V10 (aM) nm (.slice mo ml mc) (.slice mO mL mC) mm (.slice mp mq mr) (.slice mP mQ mR)) := qM
      have H_rm1 : Hid (RNum V10 (.agg #[.bool nm, .slice mo ml mc, .slice mO mL mC]) (VA c x i) 400) := rm1
      have H_rm2 : Hid (RNum V10 (.agg #[.bool mm, .slice mp mq mr, .slice mP mQ mR]) (SB c x i) 400) := rm2
      have H_qCc : Hid (QCell V10 (aCc) ne (.slice eo el ec) (.slice eO eL eC)) := qCc
      have H_bw : Hid (Below g w V10) := bw
      have H_zw : Hid (g + 1 ≤ V10.heap.size) := zw
      clear qX qp rp qq rq qM rm1 rm2 qCc bw zw
      go_upto_region 11 with fail
      rw [← HV10.out, ← HaCc.out]
      clear HV10 HaCc
      have qX := H_qX.out
      have qp := H_qp.out
      have rp := H_rp.out
      have qq := H_qq.out
      have rq := H_rq.out
      have qM := H_qM.out
      have rm1 := H_rm1.out
      have rm2 := H_rm2.out
      have qCc := H_qCc.out
      have bw := H_bw.out
      have zw := H_zw.out
      clear H_qX H_qp H_rp H_qq H_rq H_qM H_rm1 H_rm2 H_qCc H_bw H_zw
      clear lCc
      have RXH : Hid (∀ W, Below V10.heap.size V10 W → RNum W (.agg #[.bool nx, .slice xo xl2 xc, .slice xO xL2 xC]) x 2) := fun W h => RX.out _ (by rw [← HG.out]; exact bw.trans (h.mono (by omega)))
      have QXH : Hid (QCell V10 (g) nx (.slice xo xl2 xc) (.slice xO xL2 xC)) := qX
      have H_qX : Hid (QCell V10 (g) nx (.slice xo xl2 xc) (.slice xO xL2 xC)) := qX
      have H_qp : Hid (QCell V10 (ap) np (.slice po pl pc) (.slice pO pL pC)) := qp
      have H_rp : Hid (RNum V10 (.agg #[.bool np, .slice po pl pc, .slice pO pL pC]) (VA c x i) 400) := rp
      have H_qq : Hid (QCell V10 (aq) nq (.slice qo ql qc) (.slice qO qL qC)) := qq
      have H_rq : Hid (RNum V10 (.agg #[.bool nq, .slice qo ql qc, .slice qO qL qC]) (SB c x i) 400) := rq
      have H_qM : Hid (SlC V10 (aM) nm (.slice mo ml mc) (.slice mO mL mC) mm (.slice mp mq mr) (.slice mP mQ mR)) := qM
      have H_rm1 : Hid (RNum V10 (.agg #[.bool nm, .slice mo ml mc, .slice mO mL mC]) (VA c x i) 400) := rm1
      have H_rm2 : Hid (RNum V10 (.agg #[.bool mm, .slice mp mq mr, .slice mP mQ mR]) (SB c x i) 400) := rm2
      have H_qCc : Hid (QCell V10 (aCc) ne (.slice eo el ec) (.slice eO eL eC)) := qCc
      have H_bw : Hid (Below g w V10) := bw
      have H_zw : Hid (g + 1 ≤ V10.heap.size) := zw
      clear qX qp rp qq rq qM rm1 rm2 qCc bw zw
      go_cut [12, 13] from 41 to 50 (fun v12 v13 wx => ∃ aP  nz zo zl zc zO zL zC mz zp zq zr zP zQ zR, v12 = .pointer (some ⟨aP, 0, none⟩) ∧ v13 = .int .i64 0 ∧ Hid (SlC wx (aP) nz (.slice zo zl zc) (.slice zO zL zC) mz (.slice zp zq zr) (.slice zP zQ zR) ∧ RNum wx (.agg #[.bool nz, .slice zo zl zc, .slice zO zL zC]) (sp1 x i) 20 ∧ RNum wx (.agg #[.bool mz, .slice zp zq zr, .slice zP zQ zR]) (sp2 x 1 i) 20 ∧ Below V10.heap.size V10 wx))
      case first =>
        have KEEP : ∀ u, Below V10.heap.size V10 u → L3.AllL u [(2, fun w' => w'.cell? ⟨g, 0, none⟩ = some (.bool nx) ∧ w'.cell? ⟨g, 1, none⟩ = some (.slice xo xl2 xc) ∧ w'.cell? ⟨g, 2, none⟩ = some (.slice xO xL2 xC))] := fun u hu => ⟨(QXH.out.below hu).cells, trivial⟩
        refine L3.region_late [(2, fun w' => w'.cell? ⟨g, 0, none⟩ = some (.bool nx) ∧ w'.cell? ⟨g, 1, none⟩ = some (.slice xo xl2 xc) ∧ w'.cell? ⟨g, 2, none⟩ = some (.slice xO xL2 xC))] (by kernel_rfl) ?_
        have B : Below V10.heap.size V10 V10.drew := (Below.refl _ _).drew
        obtain ⟨wd, hwd⟩ : ∃ u, u = V10.drew := ⟨_, rfl⟩
        rw [← hwd] at B ⊢
        clear hwd
        have hHeld := KEEP _ B
        refine L3.late_free 0 (v := .agg #[]) rfl (by kernel_rfl) (by kernel_rfl) (by kernel_rfl) (by kernel_rfl) (by kernel_rfl) (by kernel_rfl) (fun _ _ _ h => h) (Or.inl ⟨by rfl, ?_⟩) hHeld ?_
        · (intro u _; go_simp)
        (try simp only [Act.put, List.setIfInBounds_toArray, List.set_cons_zero, List.set_cons_succ])
        refine L3.late_free 1 (v := .iface 45 (.agg #[])) rfl (by kernel_rfl) (by kernel_rfl) (by kernel_rfl) (by kernel_rfl) (by kernel_rfl) (by kernel_rfl) (fun _ _ _ h => h) (Or.inl ⟨by rfl, ?_⟩) hHeld ?_
        · (intro u _; go_simp)
        (try simp only [Act.put, List.setIfInBounds_toArray, List.set_cons_zero, List.set_cons_succ])
        refine L3.late_take 2 (v := .agg #[.bool nx, .slice xo xl2 xc, .slice xO xL2 xC]) rfl (by kernel_rfl) (List.Mem.head _) (by kernel_rfl) (by kernel_rfl) (by kernel_rfl) (by kernel_rfl) (fun _ _ _ h => h) (Or.inl ⟨by rfl, ?_⟩) hHeld ?_
        · (intro u hu; (try dsimp only at hu); go_split_ands; go_simp)
        (try simp only [Act.put, List.setIfInBounds_toArray, List.set_cons_zero, List.set_cons_succ])
        refine L3.late_free 5 (v := .int .i64 i) rfl (by kernel_rfl) (by kernel_rfl) (by kernel_rfl) (by kernel_rfl) (by kernel_rfl) (by kernel_rfl) (fun _ _ _ h => h) (Or.inl ⟨by rfl, ?_⟩) hHeld ?_
        · (intro u _; go_simp)
        (try simp only [Act.put, List.setIfInBounds_toArray, List.set_cons_zero, List.set_cons_succ])
        refine L3.late_two 3 10 (by kernel_rfl) rfl rfl (fun K hK => ?_) (fun K hK => ?_)
        · go_simp
          refine (smallR (n := 1) (d := 1) (w := wd) (by decide) (by decide) (by decide) (by decide) (by decide)).mono ?_
          rintro e u1 ⟨v, rfl, hs, bs⟩
          rw [show Rat.divInt 1 1 = 1 by decide] at hs
          obtain ⟨ns, so, sl, sc, sO, sL, sC, rfl⟩ := hs.seeV
          have rs := hs.nm (L := 2) (sz1 (by decide +kernel) (by decide +kernel) |>.mono (by decide)) (by decide)
          clear hs
          have B := B.trans (bs.mono B.size)
          clear bs hHeld
          have hHeld := KEEP _ B
          go_wp2_with fail
          refine hK.out _ _ (L3.AllL.kept hHeld) ?_
          clear hK K
          (try simp only [Act.put, List.setIfInBounds_toArray, List.set_cons_zero, List.set_cons_succ])
          refine L3.late_free 4 (v := .agg #[.bool nx, .slice xo xl2 xc, .slice xO xL2 xC, .bool ns, .slice so sl sc, .slice sO sL sC]) rfl (by kernel_rfl) (by kernel_rfl) (by kernel_rfl) (by kernel_rfl) (by kernel_rfl) (by kernel_rfl) (fun _ _ _ h => h) (Or.inl ⟨by rfl, ?_⟩) hHeld ?_
          · (intro u _; go_simp)
          (try simp only [Act.put, List.setIfInBounds_toArray, List.set_cons_zero, List.set_cons_succ])
          refine L3.late_two 6 10 (by kernel_rfl) rfl rfl (fun K hK => ?_) (fun K hK => ?_)
          · go_simp
            refine (powSlopes i 2 20 u1 (RXH.out _ B) rs (fun j hj => SP_.out j (by omega)) (by decide) (by omega)).mono ?_
            rintro e u2 ⟨nz, zo, zl, zc, zO, zL, zC, mz, zp, zq, zr, zP, zQ, zR, rfl, h1, h2, bs⟩
            have r1 := h1.nm (SP_.out i (by omega)).1 (by decide)
            have r2 := h2.nm (SP_.out i (by omega)).2 (by decide)
            clear h1 h2 rs
            have B := B.trans (bs.mono B.size)
            clear bs hHeld
            have hHeld := KEEP _ B
            go_wp2_with fail
            refine hK.out _ _ (L3.AllL.kept hHeld) ?_
            clear hK K
            (try simp only [Act.put, List.setIfInBounds_toArray, List.set_cons_zero, List.set_cons_succ])
            refine L3.late_free 7 (v := .tuple #[.agg #[.bool nz, .slice zo zl zc, .slice zO zL zC, .bool mz, .slice zp zq zr, .slice zP zQ zR], .int .i64 0]) rfl (by kernel_rfl) (by kernel_rfl) (by kernel_rfl) (by kernel_rfl) (by kernel_rfl) (by kernel_rfl) (fun _ _ _ h => h) (Or.inl ⟨by rfl, ?_⟩) hHeld ?_
            · (intro u _; go_simp)
            (try simp only [Act.put, List.setIfInBounds_toArray, List.set_cons_zero, List.set_cons_succ])
            refine L3.late_free 8 (v := .agg #[.bool nz, .slice zo zl zc, .slice zO zL zC, .bool mz, .slice zp zq zr, .slice zP zQ zR]) rfl (by kernel_rfl) (by kernel_rfl) (by kernel_rfl) (by kernel_rfl) (by kernel_rfl) (by kernel_rfl) (fun _ _ _ h => h) (Or.inl ⟨by rfl, ?_⟩) hHeld ?_
            · (intro u _; go_simp)
            (try simp only [Act.put, List.setIfInBounds_toArray, List.set_cons_zero, List.set_cons_succ])
            refine L3.late_free 9 (v := .int .i64 0) rfl (by kernel_rfl) (by kernel_rfl) (by kernel_rfl) (by kernel_rfl) (by kernel_rfl) (by kernel_rfl) (fun _ _ _ h => h) (Or.inl ⟨by rfl, ?_⟩) hHeld ?_
            · (intro u _; go_simp)
            (try simp only [Act.put, List.setIfInBounds_toArray, List.set_cons_zero, List.set_cons_succ])
            refine L3.late_step 10 (by kernel_rfl) rfl (fun K hK => ?_)
            go_simp
            obtain ⟨u3, hu3⟩ : ∃ u, u = u2.alloc (.cells #[.bool false, .slice none 0 0, .slice none 0 0, .bool false, .slice none 0 0, .slice none 0 0] 43) := ⟨_, rfl⟩
            obtain ⟨aP, haP⟩ : ∃ u, u = u2.heap.size := ⟨_, rfl⟩
            have qP : SlC u3 (aP) false (.slice none 0 0) (.slice none 0 0) false (.slice none 0 0) (.slice none 0 0) := by rw [hu3]; exact slc_new _ haP.symm
            have bs : Below u2.heap.size u2 u3 := by rw [hu3]; exact belowA _ _
            have lP : V10.heap.size ≤ aP := by rw [haP]; exact B.size
            rw [← hu3, ← haP]
            clear hu3 haP
            have B := B.trans (bs.mono B.size)
            replace r1 := r1.below bs
            replace r2 := r2.below bs
            clear bs hHeld
            have hHeld := KEEP _ B
            refine hK.out _ _ (L3.AllL.kept hHeld) ?_
            clear hK K
            (try simp only [Act.put, List.setIfInBounds_toArray, List.set_cons_zero, List.set_cons_succ])
            have HPP : Hid (SlC ((((((u3.setCell ⟨aP, 0, none⟩ (.bool nz)).setCell ⟨aP, 1, none⟩ (.slice zo zl zc)).setCell ⟨aP, 2, none⟩ (.slice zO zL zC)).setCell ⟨aP, 3, none⟩ (.bool mz)).setCell ⟨aP, 4, none⟩ (.slice zp zq zr)).setCell ⟨aP, 5, none⟩ (.slice zP zQ zR)) (aP) nz (.slice zo zl zc) (.slice zO zL zC) mz (.slice zp zq zr) (.slice zP zQ zR) ∧ RNum ((((((u3.setCell ⟨aP, 0, none⟩ (.bool nz)).setCell ⟨aP, 1, none⟩ (.slice zo zl zc)).setCell ⟨aP, 2, none⟩ (.slice zO zL zC)).setCell ⟨aP, 3, none⟩ (.bool mz)).setCell ⟨aP, 4, none⟩ (.slice zp zq zr)).setCell ⟨aP, 5, none⟩ (.slice zP zQ zR)) (.agg #[.bool nz, .slice zo zl zc, .slice zO zL zC]) (sp1 x i) 20 ∧ RNum ((((((u3.setCell ⟨aP, 0, none⟩ (.bool nz)).setCell ⟨aP, 1, none⟩ (.slice zo zl zc)).setCell ⟨aP, 2, none⟩ (.slice zO zL zC)).setCell ⟨aP, 3, none⟩ (.bool mz)).setCell ⟨aP, 4, none⟩ (.slice zp zq zr)).setCell ⟨aP, 5, none⟩ (.slice zP zQ zR)) (.agg #[.bool mz, .slice zp zq zr, .slice zP zQ zR]) (sp2 x 1 i) 20 ∧ Below V10.heap.size V10 ((((((u3.setCell ⟨aP, 0, none⟩ (.bool nz)).setCell ⟨aP, 1, none⟩ (.slice zo zl zc)).setCell ⟨aP, 2, none⟩ (.slice zO zL zC)).setCell ⟨aP, 3, none⟩ (.bool mz)).setCell ⟨aP, 4, none⟩ (.slice zp zq zr)).setCell ⟨aP, 5, none⟩ (.slice zP zQ zR))) := ⟨qP.write _ _ _ _ _ _, r1.boxW qP.nointS (set6_other _ _ _ _ _ _ _ _), r2.boxW qP.nointS (set6_other _ _ _ _ _ _ _ _), ((((((B).setCell (p := ⟨aP, 0, none⟩) lP _).setCell (p := ⟨aP, 1, none⟩) lP _).setCell (p := ⟨aP, 2, none⟩) lP _).setCell (p := ⟨aP, 3, none⟩) lP _).setCell (p := ⟨aP, 4, none⟩) lP _).setCell (p := ⟨aP, 5, none⟩) lP _⟩
            obtain ⟨y0, y1, y2, y3, y4, y5⟩ := qP.cells
            have f0 := qP.thaw 0
            have f1 := qP.thaw 1
            have f2 := qP.thaw 2
            have f3 := qP.thaw 3
            have f4 := qP.thaw 4
            have f5 := qP.thaw 5
            refine L3.late_step 11 (by kernel_rfl) rfl (fun K hK => ?_)
            go_simp
            refine hK.out _ _ ⟨Or.inl ⟨11, by kernel_rfl, by kernel_rfl⟩, trivial⟩ ?_
            clear hK K
            (try simp only [Act.put, List.setIfInBounds_toArray, List.set_cons_zero, List.set_cons_succ])
            refine L3.late_step 12 (by kernel_rfl) rfl (fun K hK => ?_)
            go_simp
            refine hK.out _ _ ⟨Or.inl ⟨11, by kernel_rfl, by kernel_rfl⟩, trivial⟩ ?_
            clear hK K
            (try simp only [Act.put, List.setIfInBounds_toArray, List.set_cons_zero, List.set_cons_succ])
            refine L3.late_done (by kernel_rfl) ?_ _
            clear hHeld KEEP B r1 r2 qP y0 y1 y2 y3 y4 y5 f0 f1 f2 f3 f4 f5 lP
            go_wp2_with fail
            go_meet
            exact ⟨_, _, _, _, _, _, _, _, _, _, _, _, _, _, _, rfl, rfl, HPP⟩
          · go_simp
            obtain ⟨u2, hu2⟩ : ∃ u, u = u1.alloc (.cells #[.bool false, .slice none 0 0, .slice none 0 0, .bool false, .slice none 0 0, .slice none 0 0] 43) := ⟨_, rfl⟩
            obtain ⟨aP, haP⟩ : ∃ u, u = u1.heap.size := ⟨_, rfl⟩
            have qP : SlC u2 (aP) false (.slice none 0 0) (.slice none 0 0) false (.slice none 0 0) (.slice none 0 0) := by rw [hu2]; exact slc_new _ haP.symm
            have bs : Below u1.heap.size u1 u2 := by rw [hu2]; exact belowA _ _
            have lP : V10.heap.size ≤ aP := by rw [haP]; exact B.size
            rw [← hu2, ← haP]
            clear hu2 haP
            have B := B.trans (bs.mono B.size)
            replace rs := rs.below bs
            clear bs hHeld
            have hHeld := KEEP _ B
            refine hK.out _ _ (L3.AllL.kept hHeld) ?_
            clear hK K
            (try simp only [Act.put, List.setIfInBounds_toArray, List.set_cons_zero, List.set_cons_succ])
            refine L3.late_step 6 (by kernel_rfl) rfl (fun K hK => ?_)
            go_simp
            refine (powSlopes i 2 20 u2 (RXH.out _ B) rs (fun j hj => SP_.out j (by omega)) (by decide) (by omega)).mono ?_
            rintro e u3 ⟨nz, zo, zl, zc, zO, zL, zC, mz, zp, zq, zr, zP, zQ, zR, rfl, h1, h2, bs⟩
            have r1 := h1.nm (SP_.out i (by omega)).1 (by decide)
            have r2 := h2.nm (SP_.out i (by omega)).2 (by decide)
            clear h1 h2 rs
            have B := B.trans (bs.mono B.size)
            replace qP := qP.below bs
            clear bs hHeld
            have hHeld := KEEP _ B
            go_wp2_with fail
            refine hK.out _ _ (L3.AllL.kept hHeld) ?_
            clear hK K
            (try simp only [Act.put, List.setIfInBounds_toArray, List.set_cons_zero, List.set_cons_succ])
            refine L3.late_free 7 (v := .tuple #[.agg #[.bool nz, .slice zo zl zc, .slice zO zL zC, .bool mz, .slice zp zq zr, .slice zP zQ zR], .int .i64 0]) rfl (by kernel_rfl) (by kernel_rfl) (by kernel_rfl) (by kernel_rfl) (by kernel_rfl) (by kernel_rfl) (fun _ _ _ h => h) (Or.inl ⟨by rfl, ?_⟩) hHeld ?_
            · (intro u _; go_simp)
            (try simp only [Act.put, List.setIfInBounds_toArray, List.set_cons_zero, List.set_cons_succ])
            refine L3.late_free 8 (v := .agg #[.bool nz, .slice zo zl zc, .slice zO zL zC, .bool mz, .slice zp zq zr, .slice zP zQ zR]) rfl (by kernel_rfl) (by kernel_rfl) (by kernel_rfl) (by kernel_rfl) (by kernel_rfl) (by kernel_rfl) (fun _ _ _ h => h) (Or.inl ⟨by rfl, ?_⟩) hHeld ?_
            · (intro u _; go_simp)
            (try simp only [Act.put, List.setIfInBounds_toArray, List.set_cons_zero, List.set_cons_succ])
            refine L3.late_free 9 (v := .int .i64 0) rfl (by kernel_rfl) (by kernel_rfl) (by kernel_rfl) (by kernel_rfl) (by kernel_rfl) (by kernel_rfl) (fun _ _ _ h => h) (Or.inl ⟨by rfl, ?_⟩) hHeld ?_
            · (intro u _; go_simp)
            (try simp only [Act.put, List.setIfInBounds_toArray, List.set_cons_zero, List.set_cons_succ])
            have HPP : Hid (SlC ((((((u3.setCell ⟨aP, 0, none⟩ (.bool nz)).setCell ⟨aP, 1, none⟩ (.slice zo zl zc)).setCell ⟨aP, 2, none⟩ (.slice zO zL zC)).setCell ⟨aP, 3, none⟩ (.bool mz)).setCell ⟨aP, 4, none⟩ (.slice zp zq zr)).setCell ⟨aP, 5, none⟩ (.slice zP zQ zR)) (aP) nz (.slice zo zl zc) (.slice zO zL zC) mz (.slice zp zq zr) (.slice zP zQ zR) ∧ RNum ((((((u3.setCell ⟨aP, 0, none⟩ (.bool nz)).setCell ⟨aP, 1, none⟩ (.slice zo zl zc)).setCell ⟨aP, 2, none⟩ (.slice zO zL zC)).setCell ⟨aP, 3, none⟩ (.bool mz)).setCell ⟨aP, 4, none⟩ (.slice zp zq zr)).setCell ⟨aP, 5, none⟩ (.slice zP zQ zR)) (.agg #[.bool nz, .slice zo zl zc, .slice zO zL zC]) (sp1 x i) 20 ∧ RNum ((((((u3.setCell ⟨aP, 0, none⟩ (.bool nz)).setCell ⟨aP, 1, none⟩ (.slice zo zl zc)).setCell ⟨aP, 2, none⟩ (.slice zO zL zC)).setCell ⟨aP, 3, none⟩ (.bool mz)).setCell ⟨aP, 4, none⟩ (.slice zp zq zr)).setCell ⟨aP, 5, none⟩ (.slice zP zQ zR)) (.agg #[.bool mz, .slice zp zq zr, .slice zP zQ zR]) (sp2 x 1 i) 20 ∧ Below V10.heap.size V10 ((((((u3.setCell ⟨aP, 0, none⟩ (.bool nz)).setCell ⟨aP, 1, none⟩ (.slice zo zl zc)).setCell ⟨aP, 2, none⟩ (.slice zO zL zC)).setCell ⟨aP, 3, none⟩ (.bool mz)).setCell ⟨aP, 4, none⟩ (.slice zp zq zr)).setCell ⟨aP, 5, none⟩ (.slice zP zQ zR))) := ⟨qP.write _ _ _ _ _ _, r1.boxW qP.nointS (set6_other _ _ _ _ _ _ _ _), r2.boxW qP.nointS (set6_other _ _ _ _ _ _ _ _), ((((((B).setCell (p := ⟨aP, 0, none⟩) lP _).setCell (p := ⟨aP, 1, none⟩) lP _).setCell (p := ⟨aP, 2, none⟩) lP _).setCell (p := ⟨aP, 3, none⟩) lP _).setCell (p := ⟨aP, 4, none⟩) lP _).setCell (p := ⟨aP, 5, none⟩) lP _⟩
            obtain ⟨y0, y1, y2, y3, y4, y5⟩ := qP.cells
            have f0 := qP.thaw 0
            have f1 := qP.thaw 1
            have f2 := qP.thaw 2
            have f3 := qP.thaw 3
            have f4 := qP.thaw 4
            have f5 := qP.thaw 5
            refine L3.late_step 11 (by kernel_rfl) rfl (fun K hK => ?_)
            go_simp
            refine hK.out _ _ ⟨Or.inl ⟨11, by kernel_rfl, by kernel_rfl⟩, trivial⟩ ?_
            clear hK K
            (try simp only [Act.put, List.setIfInBounds_toArray, List.set_cons_zero, List.set_cons_succ])
            refine L3.late_step 12 (by kernel_rfl) rfl (fun K hK => ?_)
            go_simp
            refine hK.out _ _ ⟨Or.inl ⟨11, by kernel_rfl, by kernel_rfl⟩, trivial⟩ ?_
            clear hK K
            (try simp only [Act.put, List.setIfInBounds_toArray, List.set_cons_zero, List.set_cons_succ])
            refine L3.late_done (by kernel_rfl) ?_ _
            clear hHeld KEEP B r1 r2 qP y0 y1 y2 y3 y4 y5 f0 f1 f2 f3 f4 f5 lP
            go_wp2_with fail
            go_meet
            exact ⟨_, _, _, _, _, _, _, _, _, _, _, _, _, _, _, rfl, rfl, HPP⟩
        · go_simp
          obtain ⟨u1, hu1⟩ : ∃ u, u = wd.alloc (.cells #[.bool false, .slice none 0 0, .slice none 0 0, .bool false, .slice none 0 0, .slice none 0 0] 43) := ⟨_, rfl⟩
          obtain ⟨aP, haP⟩ : ∃ u, u = wd.heap.size := ⟨_, rfl⟩
          have qP : SlC u1 (aP) false (.slice none 0 0) (.slice none 0 0) false (.slice none 0 0) (.slice none 0 0) := by rw [hu1]; exact slc_new _ haP.symm
          have bs : Below wd.heap.size wd u1 := by rw [hu1]; exact belowA _ _
          have lP : V10.heap.size ≤ aP := by rw [haP]; exact B.size
          rw [← hu1, ← haP]
          clear hu1 haP
          have B := B.trans (bs.mono B.size)
          clear bs hHeld
          have hHeld := KEEP _ B
          refine hK.out _ _ (L3.AllL.kept hHeld) ?_
          clear hK K
          (try simp only [Act.put, List.setIfInBounds_toArray, List.set_cons_zero, List.set_cons_succ])
          refine L3.late_step 3 (by kernel_rfl) rfl (fun K hK => ?_)
          go_simp
          refine (smallR (n := 1) (d := 1) (w := u1) (by decide) (by decide) (by decide) (by decide) (by decide)).mono ?_
          rintro e u2 ⟨v, rfl, hs, bs⟩
          rw [show Rat.divInt 1 1 = 1 by decide] at hs
          obtain ⟨ns, so, sl, sc, sO, sL, sC, rfl⟩ := hs.seeV
          have rs := hs.nm (L := 2) (sz1 (by decide +kernel) (by decide +kernel) |>.mono (by decide)) (by decide)
          clear hs
          have B := B.trans (bs.mono B.size)
          replace qP := qP.below bs
          clear bs hHeld
          have hHeld := KEEP _ B
          go_wp2_with fail
          refine hK.out _ _ (L3.AllL.kept hHeld) ?_
          clear hK K
          (try simp only [Act.put, List.setIfInBounds_toArray, List.set_cons_zero, List.set_cons_succ])
          refine L3.late_free 4 (v := .agg #[.bool nx, .slice xo xl2 xc, .slice xO xL2 xC, .bool ns, .slice so sl sc, .slice sO sL sC]) rfl (by kernel_rfl) (by kernel_rfl) (by kernel_rfl) (by kernel_rfl) (by kernel_rfl) (by kernel_rfl) (fun _ _ _ h => h) (Or.inl ⟨by rfl, ?_⟩) hHeld ?_
          · (intro u _; go_simp)
          (try simp only [Act.put, List.setIfInBounds_toArray, List.set_cons_zero, List.set_cons_succ])
          refine L3.late_step 6 (by kernel_rfl) rfl (fun K hK => ?_)
          go_simp
          refine (powSlopes i 2 20 u2 (RXH.out _ B) rs (fun j hj => SP_.out j (by omega)) (by decide) (by omega)).mono ?_
          rintro e u3 ⟨nz, zo, zl, zc, zO, zL, zC, mz, zp, zq, zr, zP, zQ, zR, rfl, h1, h2, bs⟩
          have r1 := h1.nm (SP_.out i (by omega)).1 (by decide)
          have r2 := h2.nm (SP_.out i (by omega)).2 (by decide)
          clear h1 h2 rs
          have B := B.trans (bs.mono B.size)
          replace qP := qP.below bs
          clear bs hHeld
          have hHeld := KEEP _ B
          go_wp2_with fail
          refine hK.out _ _ (L3.AllL.kept hHeld) ?_
          clear hK K
          (try simp only [Act.put, List.setIfInBounds_toArray, List.set_cons_zero, List.set_cons_succ])
          refine L3.late_free 7 (v := .tuple #[.agg #[.bool nz, .slice zo zl zc, .slice zO zL zC, .bool mz, .slice zp zq zr, .slice zP zQ zR], .int .i64 0]) rfl (by kernel_rfl) (by kernel_rfl) (by kernel_rfl) (by kernel_rfl) (by kernel_rfl) (by kernel_rfl) (fun _ _ _ h => h) (Or.inl ⟨by rfl, ?_⟩) hHeld ?_
          · (intro u _; go_simp)
          (try simp only [Act.put, List.setIfInBounds_toArray, List.set_cons_zero, List.set_cons_succ])
          refine L3.late_free 8 (v := .agg #[.bool nz, .slice zo zl zc, .slice zO zL zC, .bool mz, .slice zp zq zr, .slice zP zQ zR]) rfl (by kernel_rfl) (by kernel_rfl) (by kernel_rfl) (by kernel_rfl) (by kernel_rfl) (by kernel_rfl) (fun _ _ _ h => h) (Or.inl ⟨by rfl, ?_⟩) hHeld ?_
          · (intro u _; go_simp)
          (try simp only [Act.put, List.setIfInBounds_toArray, List.set_cons_zero, List.set_cons_succ])
          refine L3.late_free 9 (v := .int .i64 0) rfl (by kernel_rfl) (by kernel_rfl) (by kernel_rfl) (by kernel_rfl) (by kernel_rfl) (by kernel_rfl) (fun _ _ _ h => h) (Or.inl ⟨by rfl, ?_⟩) hHeld ?_
          · (intro u _; go_simp)
          (try simp only [Act.put, List.setIfInBounds_toArray, List.set_cons_zero, List.set_cons_succ])
          have HPP : Hid (SlC ((((((u3.setCell ⟨aP, 0, none⟩ (.bool nz)).setCell ⟨aP, 1, none⟩ (.slice zo zl zc)).setCell ⟨aP, 2, none⟩ (.slice zO zL zC)).setCell ⟨aP, 3, none⟩ (.bool mz)).setCell ⟨aP, 4, none⟩ (.slice zp zq zr)).setCell ⟨aP, 5, none⟩ (.slice zP zQ zR)) (aP) nz (.slice zo zl zc) (.slice zO zL zC) mz (.slice zp zq zr) (.slice zP zQ zR) ∧ RNum ((((((u3.setCell ⟨aP, 0, none⟩ (.bool nz)).setCell ⟨aP, 1, none⟩ (.slice zo zl zc)).setCell ⟨aP, 2, none⟩ (.slice zO zL zC)).setCell ⟨aP, 3, none⟩ (.bool mz)).setCell ⟨aP, 4, none⟩ (.slice zp zq zr)).setCell ⟨aP, 5, none⟩ (.slice zP zQ zR)) (.agg #[.bool nz, .slice zo zl zc, .slice zO zL zC]) (sp1 x i) 20 ∧ RNum ((((((u3.setCell ⟨aP, 0, none⟩ (.bool nz)).setCell ⟨aP, 1, none⟩ (.slice zo zl zc)).setCell ⟨aP, 2, none⟩ (.slice zO zL zC)).setCell ⟨aP, 3, none⟩ (.bool mz)).setCell ⟨aP, 4, none⟩ (.slice zp zq zr)).setCell ⟨aP, 5, none⟩ (.slice zP zQ zR)) (.agg #[.bool mz, .slice zp zq zr, .slice zP zQ zR]) (sp2 x 1 i) 20 ∧ Below V10.heap.size V10 ((((((u3.setCell ⟨aP, 0, none⟩ (.bool nz)).setCell ⟨aP, 1, none⟩ (.slice zo zl zc)).setCell ⟨aP, 2, none⟩ (.slice zO zL zC)).setCell ⟨aP, 3, none⟩ (.bool mz)).setCell ⟨aP, 4, none⟩ (.slice zp zq zr)).setCell ⟨aP, 5, none⟩ (.slice zP zQ zR))) := ⟨qP.write _ _ _ _ _ _, r1.boxW qP.nointS (set6_other _ _ _ _ _ _ _ _), r2.boxW qP.nointS (set6_other _ _ _ _ _ _ _ _), ((((((B).setCell (p := ⟨aP, 0, none⟩) lP _).setCell (p := ⟨aP, 1, none⟩) lP _).setCell (p := ⟨aP, 2, none⟩) lP _).setCell (p := ⟨aP, 3, none⟩) lP _).setCell (p := ⟨aP, 4, none⟩) lP _).setCell (p := ⟨aP, 5, none⟩) lP _⟩
          obtain ⟨y0, y1, y2, y3, y4, y5⟩ := qP.cells
          have f0 := qP.thaw 0
          have f1 := qP.thaw 1
          have f2 := qP.thaw 2
          have f3 := qP.thaw 3
          have f4 := qP.thaw 4
          have f5 := qP.thaw 5
          refine L3.late_step 11 (by kernel_rfl) rfl (fun K hK => ?_)
          go_simp
          refine hK.out _ _ ⟨Or.inl ⟨11, by kernel_rfl, by kernel_rfl⟩, trivial⟩ ?_
          clear hK K
          (try simp only [Act.put, List.setIfInBounds_toArray, List.set_cons_zero, List.set_cons_succ])
          refine L3.late_step 12 (by kernel_rfl) rfl (fun K hK => ?_)
          go_simp
          refine hK.out _ _ ⟨Or.inl ⟨11, by kernel_rfl, by kernel_rfl⟩, trivial⟩ ?_
          clear hK K
          (try simp only [Act.put, List.setIfInBounds_toArray, List.set_cons_zero, List.set_cons_succ])
          refine L3.late_done (by kernel_rfl) ?_ _
          clear hHeld KEEP B r1 r2 qP y0 y1 y2 y3 y4 y5 f0 f1 f2 f3 f4 f5 lP
          go_wp2_with fail
          go_meet
          exact ⟨_, _, _, _, _, _, _, _, _, _, _, _, _, _, _, rfl, rfl, HPP⟩
      case rest =>
        obtain ⟨aP, nz, zo, zl, zc, zO, zL, zC, mz, zp, zq, zr, zP, zQ, zR, rfl, rfl, HPP⟩ := hcut
        obtain ⟨qz, rz1, rz2, bz⟩ := HPP.out
        clear HPP RXH QXH
        have qX := H_qX.out
        have qp := H_qp.out
        have rp := H_rp.out
        have qq := H_qq.out
        have rq := H_rq.out
        have qM := H_qM.out
        have rm1 := H_rm1.out
        have rm2 := H_rm2.out
        have qCc := H_qCc.out
        have bw := H_bw.out
        have zw := H_zw.out
        clear H_qX H_qp H_rp H_qq H_rq H_qM H_rm1 H_rm2 H_qCc H_bw H_zw
        replace qX := qX.below bz
        replace qp := qp.below bz
        replace rp := rp.below bz
        replace qq := qq.below bz
        replace rq := rq.below bz
        replace qM := qM.below bz
        replace rm1 := rm1.below bz
        replace rm2 := rm2.below bz
        replace qCc := qCc.below bz
        replace bw := bw.trans (bz.mono (by omega))
        replace zw := Nat.le_trans zw bz.size
        clear bz
        have CC : Hid _ := powRats i 2 20 wc (RX.out _ (by rw [← HG.out]; exact bw)) (fun j hj => (SP_.out j (by omega)).1) (by decide) (by omega)
        obtain ⟨cX0, cX1, cX2⟩ := qX.cells
        have H_qX : Hid (QCell wc (g) nx (.slice xo xl2 xc) (.slice xO xL2 xC)) := qX
        have H_qp : Hid (QCell wc (ap) np (.slice po pl pc) (.slice pO pL pC)) := qp
        have H_rp : Hid (RNum wc (.agg #[.bool np, .slice po pl pc, .slice pO pL pC]) (VA c x i) 400) := rp
        have H_qq : Hid (QCell wc (aq) nq (.slice qo ql qc) (.slice qO qL qC)) := qq
        have H_rq : Hid (RNum wc (.agg #[.bool nq, .slice qo ql qc, .slice qO qL qC]) (SB c x i) 400) := rq
        have H_qM : Hid (SlC wc (aM) nm (.slice mo ml mc) (.slice mO mL mC) mm (.slice mp mq mr) (.slice mP mQ mR)) := qM
        have H_rm1 : Hid (RNum wc (.agg #[.bool nm, .slice mo ml mc, .slice mO mL mC]) (VA c x i) 400) := rm1
        have H_rm2 : Hid (RNum wc (.agg #[.bool mm, .slice mp mq mr, .slice mP mQ mR]) (SB c x i) 400) := rm2
        have H_qCc : Hid (QCell wc (aCc) ne (.slice eo el ec) (.slice eO eL eC)) := qCc
        have H_qz : Hid (SlC wc (aP) nz (.slice zo zl zc) (.slice zO zL zC) mz (.slice zp zq zr) (.slice zP zQ zR)) := qz
        have H_rz1 : Hid (RNum wc (.agg #[.bool nz, .slice zo zl zc, .slice zO zL zC]) (sp1 x i) 20) := rz1
        have H_rz2 : Hid (RNum wc (.agg #[.bool mz, .slice zp zq zr, .slice zP zQ zR]) (sp2 x 1 i) 20) := rz2
        have H_bw : Hid (Below g w wc) := bw
        have H_zw : Hid (g + 1 ≤ wc.heap.size) := zw
        clear qX qp rp qq rq qM rm1 rm2 qCc qz rz1 rz2 bw zw
        go_wp2_with fail
        refine Calls.mono CC.out ?_
        rintro e x11 ⟨v, rfl, hy, b11⟩
        clear CC cX0 cX1 cX2
        have qX := H_qX.out
        have qp := H_qp.out
        have rp := H_rp.out
        have qq := H_qq.out
        have rq := H_rq.out
        have qM := H_qM.out
        have rm1 := H_rm1.out
        have rm2 := H_rm2.out
        have qCc := H_qCc.out
        have qz := H_qz.out
        have rz1 := H_rz1.out
        have rz2 := H_rz2.out
        have bw := H_bw.out
        have zw := H_zw.out
        clear H_qX H_qp H_rp H_qq H_rq H_qM H_rm1 H_rm2 H_qCc H_qz H_rz1 H_rz2 H_bw H_zw
        replace qX := qX.below b11
        replace qp := qp.below b11
        replace rp := rp.below b11
        replace qq := qq.below b11
        replace rq := rq.below b11
        replace qM := qM.below b11
        replace rm1 := rm1.below b11
        replace rm2 := rm2.below b11
        replace qCc := qCc.below b11
        replace qz := qz.below b11
        replace rz1 := rz1.below b11
        replace rz2 := rz2.below b11
        replace bw := bw.trans (b11.mono (by omega))
        replace zw := Nat.le_trans zw b11.size
        clear b11
        obtain ⟨ny, yo, yl, yc, yO, yL, yC, rfl⟩ := hy.seeV
        have ry : RNum x11 (.agg #[.bool ny, .slice yo yl yc, .slice yO yL yC]) (sp1 x i) 20 := hy.nm (SP_.out i (by omega)).1 (by decide)
        clear hy
        obtain ⟨V12, hV12⟩ : ∃ u, u = x11.alloc (.cells #[.bool ny, .slice yo yl yc, .slice yO yL yC] 27) := ⟨_, rfl⟩
        obtain ⟨ay, hay⟩ : ∃ s, s = x11.heap.size := ⟨_, rfl⟩
        have qy : QCell V12 (ay) ny (.slice yo yl yc) (.slice yO yL yC) := by rw [hV12]; exact qcell_new _ hay.symm
        have bq : Below x11.heap.size x11 V12 := by rw [hV12]; exact belowA _ _
        have ly : g + 1 ≤ ay := by rw [hay]; exact zw
        have neY : ap < ay ∧ aq < ay ∧ aM < ay := by rw [hay]; exact ⟨qp.ltR, qq.ltR, qM.lt⟩
        have HV12 : Hid (V12 = x11.alloc (.cells #[.bool ny, .slice yo yl yc, .slice yO yL yC] 27)) := hV12
        have Hay : Hid (ay = x11.heap.size) := hay
        clear hV12 hay
        replace qX := qX.below bq
        replace qp := qp.below bq
        replace rp := rp.below bq
        replace qq := qq.below bq
        replace rq := rq.below bq
        replace qM := qM.below bq
        replace rm1 := rm1.below bq
        replace rm2 := rm2.below bq
        replace qCc := qCc.below bq
        replace qz := qz.below bq
        replace rz1 := rz1.below bq
        replace rz2 := rz2.below bq
        replace ry := ry.below bq
        replace bw := bw.trans (bq.mono (by omega))
        replace zw := Nat.le_trans zw bq.size
        clear bq
        have H_qX : Hid (QCell V12 (g) nx (.slice xo xl2 xc) (.slice xO xL2 xC)) := qX
        have H_qp : Hid (QCell V12 (ap) np (.slice po pl pc) (.slice pO pL pC)) := qp
        have H_rp : Hid (RNum V12 (.agg #[.bool np, .slice po pl pc, .slice pO pL pC]) (VA c x i) 400) := rp
        have H_qq : Hid (QCell V12 (aq) nq (.slice qo ql qc) (.slice qO qL qC)) := qq
        have H_rq : Hid (RNum V12 (.agg #[.bool nq, .slice qo ql qc, .slice qO qL qC]) (SB c x i) 400) := rq
        have H_qM : Hid (SlC V12 (aM) nm (.slice mo ml mc) (.slice mO mL mC) mm (.slice mp mq mr) (.slice mP mQ mR)) := qM
        have H_rm1 : Hid (RNum V12 (.agg #[.bool nm, .slice mo ml mc, .slice mO mL mC]) (VA c x i) 400) := rm1
        have H_rm2 : Hid (RNum V12 (.agg #[.bool mm, .slice mp mq mr, .slice mP mQ mR]) (SB c x i) 400) := rm2
        have H_qCc : Hid (QCell V12 (aCc) ne (.slice eo el ec) (.slice eO eL eC)) := qCc
        have H_qz : Hid (SlC V12 (aP) nz (.slice zo zl zc) (.slice zO zL zC) mz (.slice zp zq zr) (.slice zP zQ zR)) := qz
        have H_rz1 : Hid (RNum V12 (.agg #[.bool nz, .slice zo zl zc, .slice zO zL zC]) (sp1 x i) 20) := rz1
        have H_rz2 : Hid (RNum V12 (.agg #[.bool mz, .slice zp zq zr, .slice zP zQ zR]) (sp2 x 1 i) 20) := rz2
        have H_ry : Hid (RNum V12 (.agg #[.bool ny, .slice yo yl yc, .slice yO yL yC]) (sp1 x i) 20) := ry
        have H_qy : Hid (QCell V12 (ay) ny (.slice yo yl yc) (.slice yO yL yC)) := qy
        have H_bw : Hid (Below g w V12) := bw
        have H_zw : Hid (g + 1 ≤ V12.heap.size) := zw
        clear qX qp rp qq rq qM rm1 rm2 qCc qz rz1 rz2 ry qy bw zw
        go_upto_region 15 with fail
        rw [← HV12.out, ← Hay.out]
        clear HV12 Hay
        have qX := H_qX.out
        have qp := H_qp.out
        have rp := H_rp.out
        have qq := H_qq.out
        have rq := H_rq.out
        have qM := H_qM.out
        have rm1 := H_rm1.out
        have rm2 := H_rm2.out
        have qCc := H_qCc.out
        have qz := H_qz.out
        have rz1 := H_rz1.out
        have rz2 := H_rz2.out
        have ry := H_ry.out
        have qy := H_qy.out
        have bw := H_bw.out
        have zw := H_zw.out
        clear H_qX H_qp H_rp H_qq H_rq H_qM H_rm1 H_rm2 H_qCc H_qz H_rz1 H_rz2 H_ry H_qy H_bw H_zw
        clear ly
        have SCi : Hid (RSz (c i) 2) := (RCi.out _ (by rw [← HG.out]; exact bw)).sz
        have hne1 := neC
        have KEEP : ∀ u, Below V12.heap.size V12 u → L3.AllL u [(0, fun w' => True), (1, fun w' => w'.cell? ⟨aM, 0, none⟩ = some (.bool nm) ∧ w'.cell? ⟨aM, 1, none⟩ = some (.slice mo ml mc) ∧ w'.cell? ⟨aM, 2, none⟩ = some (.slice mO mL mC) ∧ w'.cell? ⟨aM, 3, none⟩ = some (.bool mm) ∧ w'.cell? ⟨aM, 4, none⟩ = some (.slice mp mq mr) ∧ w'.cell? ⟨aM, 5, none⟩ = some (.slice mP mQ mR)), (2, fun w' => True), (3, fun w' => w'.cell? ⟨aCc, 0, none⟩ = some (.bool ne) ∧ w'.cell? ⟨aCc, 1, none⟩ = some (.slice eo el ec) ∧ w'.cell? ⟨aCc, 2, none⟩ = some (.slice eO eL eC)), (6, fun w' => w'.cell? ⟨aP, 0, none⟩ = some (.bool nz) ∧ w'.cell? ⟨aP, 1, none⟩ = some (.slice zo zl zc) ∧ w'.cell? ⟨aP, 2, none⟩ = some (.slice zO zL zC) ∧ w'.cell? ⟨aP, 3, none⟩ = some (.bool mz) ∧ w'.cell? ⟨aP, 4, none⟩ = some (.slice zp zq zr) ∧ w'.cell? ⟨aP, 5, none⟩ = some (.slice zP zQ zR))] := fun u hu => ⟨trivial, (qM.below hu).cells, trivial, (qCc.below hu).cells, (qz.below hu).cells, trivial⟩
        refine L3.region_late [(0, fun w' => True), (1, fun w' => w'.cell? ⟨aM, 0, none⟩ = some (.bool nm) ∧ w'.cell? ⟨aM, 1, none⟩ = some (.slice mo ml mc) ∧ w'.cell? ⟨aM, 2, none⟩ = some (.slice mO mL mC) ∧ w'.cell? ⟨aM, 3, none⟩ = some (.bool mm) ∧ w'.cell? ⟨aM, 4, none⟩ = some (.slice mp mq mr) ∧ w'.cell? ⟨aM, 5, none⟩ = some (.slice mP mQ mR)), (2, fun w' => True), (3, fun w' => w'.cell? ⟨aCc, 0, none⟩ = some (.bool ne) ∧ w'.cell? ⟨aCc, 1, none⟩ = some (.slice eo el ec) ∧ w'.cell? ⟨aCc, 2, none⟩ = some (.slice eO eL eC)), (6, fun w' => w'.cell? ⟨aP, 0, none⟩ = some (.bool nz) ∧ w'.cell? ⟨aP, 1, none⟩ = some (.slice zo zl zc) ∧ w'.cell? ⟨aP, 2, none⟩ = some (.slice zO zL zC) ∧ w'.cell? ⟨aP, 3, none⟩ = some (.bool mz) ∧ w'.cell? ⟨aP, 4, none⟩ = some (.slice zp zq zr) ∧ w'.cell? ⟨aP, 5, none⟩ = some (.slice zP zQ zR))] (by kernel_rfl) ?_
        have B : Below V12.heap.size V12 V12.drew := (Below.refl _ _).drew
        obtain ⟨w4, hw4⟩ : ∃ u, u = V12.drew := ⟨_, rfl⟩
        rw [← hw4] at B ⊢
        clear hw4
        have hHeld := KEEP _ B
        refine L3.late_take 0 (v := .agg #[]) rfl (by kernel_rfl) (List.Mem.head _) (by kernel_rfl) (by kernel_rfl) (by kernel_rfl) (by kernel_rfl) (fun _ _ _ h => h) (Or.inl ⟨by rfl, ?_⟩) hHeld ?_
        · (intro u hu; (try dsimp only at hu); go_split_ands; go_simp)
        (try simp only [Act.put, List.setIfInBounds_toArray, List.set_cons_zero, List.set_cons_succ])
        refine L3.late_take 1 (v := .agg #[.bool nm, .slice mo ml mc, .slice mO mL mC, .bool mm, .slice mp mq mr, .slice mP mQ mR]) rfl (by kernel_rfl) (List.Mem.tail _ (List.Mem.head _)) (by kernel_rfl) (by kernel_rfl) (by kernel_rfl) (by kernel_rfl) (fun _ _ _ h => h) (Or.inl ⟨by rfl, ?_⟩) hHeld ?_
        · (intro u hu; (try dsimp only at hu); go_split_ands; go_simp)
        (try simp only [Act.put, List.setIfInBounds_toArray, List.set_cons_zero, List.set_cons_succ])
        refine L3.late_take 2 (v := .agg #[]) rfl (by kernel_rfl) (List.Mem.tail _ (List.Mem.tail _ (List.Mem.head _))) (by kernel_rfl) (by kernel_rfl) (by kernel_rfl) (by kernel_rfl) (fun _ _ _ h => h) (Or.inl ⟨by rfl, ?_⟩) hHeld ?_
        · (intro u hu; (try dsimp only at hu); go_split_ands; go_simp)
        (try simp only [Act.put, List.setIfInBounds_toArray, List.set_cons_zero, List.set_cons_succ])
        refine L3.late_take 3 (v := .agg #[.bool ne, .slice eo el ec, .slice eO eL eC]) rfl (by kernel_rfl) (List.Mem.tail _ (List.Mem.tail _ (List.Mem.tail _ (List.Mem.head _)))) (by kernel_rfl) (by kernel_rfl) (by kernel_rfl) (by kernel_rfl) (fun _ _ _ h => h) (Or.inl ⟨by rfl, ?_⟩) hHeld ?_
        · (intro u hu; (try dsimp only at hu); go_split_ands; go_simp)
        (try simp only [Act.put, List.setIfInBounds_toArray, List.set_cons_zero, List.set_cons_succ])
        refine L3.late_take 6 (v := .agg #[.bool nz, .slice zo zl zc, .slice zO zL zC, .bool mz, .slice zp zq zr, .slice zP zQ zR]) rfl (by kernel_rfl) (List.Mem.tail _ (List.Mem.tail _ (List.Mem.tail _ (List.Mem.tail _ (List.Mem.head _))))) (by kernel_rfl) (by kernel_rfl) (by kernel_rfl) (by kernel_rfl) (fun _ _ _ h => h) (Or.inl ⟨by rfl, ?_⟩) hHeld ?_
        · (intro u hu; (try dsimp only at hu); go_split_ands; go_simp)
        (try simp only [Act.put, List.setIfInBounds_toArray, List.set_cons_zero, List.set_cons_succ])
        refine L3.late_step 4 (by kernel_rfl) rfl (fun K hK => ?_)
        go_simp
        refine (smallR (n := 0) (d := 1) (by omega) (by omega) (by decide) (by decide) (by decide)).mono ?_
        rintro e u5 ⟨v, rfl, hi0, c5⟩
        obtain ⟨ni0, i0o, i0l, i0c, i0O, i0L, i0C, rfl⟩ := hi0.seeV
        have ri0 := hi0.nm (L := 1) ((sz1 (by decide +kernel) (by decide +kernel))) (by decide)
        clear hi0
        have B := B.trans (c5.mono B.size)
        clear c5 hHeld
        have hHeld := KEEP _ B
        go_wp2_with fail
        refine hK.out _ _ (L3.AllL.kept hHeld) ?_
        clear hK K
        (try simp only [Act.put, List.setIfInBounds_toArray, List.set_cons_zero, List.set_cons_succ])
        refine L3.late_free 5 (v := .agg #[.bool ne, .slice eo el ec, .slice eO eL eC, .bool ni0, .slice i0o i0l i0c, .slice i0O i0L i0C]) rfl (by kernel_rfl) (by kernel_rfl) (by kernel_rfl) (by kernel_rfl) (by kernel_rfl) (by kernel_rfl) (fun _ _ _ h => h) (Or.inl ⟨by rfl, ?_⟩) hHeld ?_
        · (intro u _; go_simp)
        (try simp only [Act.put, List.setIfInBounds_toArray, List.set_cons_zero, List.set_cons_succ])
        refine L3.late_step 7 (by kernel_rfl) rfl (fun K hK => ?_)
        go_simp
        refine (slopesMul (L := 20) (M := 20) (rnum_mono (RCi.out _ (by rw [← HG.out]; exact bw.trans (B.mono (by omega)))) (by decide)) (rnum_mono ri0 (by decide)) (rz1.below B) (rz2.below B) (by decide)).mono ?_
        rintro e u6 ⟨nj, jo, jl, jc, jO, jL, jC, mj, jp, jq, jr, jP, jQ, jR, rfl, hj1, hj2, c6⟩
        have tj1 := hj1.nm (L := 40) (szMul (SCi.out) (SP_.out i (by omega)).1 |>.mono (by decide)) (by decide)
        have tj2 := hj2.nm (L := 100) (szAdd (szMul SCi.out (SP_.out i (by omega)).2) (szMul (L := 1) ⟨Sz.zero, Sz.one⟩ (SP_.out i (by omega)).1) |>.mono (by decide)) (by decide)
        clear hj1 hj2
        have B := B.trans (c6.mono B.size)
        replace ri0 := ri0.below c6
        clear c6 hHeld
        have hHeld := KEEP _ B
        go_wp2_with fail
        refine hK.out _ _ (L3.AllL.kept hHeld) ?_
        clear hK K
        (try simp only [Act.put, List.setIfInBounds_toArray, List.set_cons_zero, List.set_cons_succ])
        refine L3.late_step 8 (by kernel_rfl) rfl (fun K hK => ?_)
        go_simp
        refine (slopesAdd (L := 400) (M := 400) (rm1.below B) (rm2.below B) (rnum_mono tj1 (by decide)) (rnum_mono tj2 (by decide)) (by decide)).mono ?_
        rintro e u7 ⟨nt, to_, tl, tc, tO, tL, tC, mt, tp, tq, tr, tP, tQ, tR, rfl, ht1, ht2, c7⟩
        have rt1 := ht1.nm (L := 400) (r := VA c x (i + 1)) (SV.out (i + 1) (by omega)).1 (by decide)
        have rt2 := ht2.nm (L := 400) (r := SB c x (i + 1)) (SV.out (i + 1) (by omega)).2 (by decide)
        clear ht1 ht2
        have B := B.trans (c7.mono B.size)
        replace ri0 := ri0.below c7
        replace tj1 := tj1.below c7
        replace tj2 := tj2.below c7
        clear c7 hHeld
        have hHeld := KEEP _ B
        go_wp2_with fail
        refine hK.out _ _ (L3.AllL.kept hHeld) ?_
        clear hK K
        (try simp only [Act.put, List.setIfInBounds_toArray, List.set_cons_zero, List.set_cons_succ])
        have hap := HAP.out
        have N_qX : Hid (QCell ((((((u7.setCell ⟨aM, 0, none⟩ (.bool nt)).setCell ⟨aM, 1, none⟩ (.slice to_ tl tc)).setCell ⟨aM, 2, none⟩ (.slice tO tL tC)).setCell ⟨aM, 3, none⟩ (.bool mt)).setCell ⟨aM, 4, none⟩ (.slice tp tq tr)).setCell ⟨aM, 5, none⟩ (.slice tP tQ tR)) (g) nx (.slice xo xl2 xc) (.slice xO xL2 xC)) := (((((((qX.below B).other (by omega) 0 _).other (by omega) 1 _).other (by omega) 2 _).other (by omega) 3 _).other (by omega) 4 _).other (by omega) 5 _)
        have N_qp : Hid (QCell ((((((u7.setCell ⟨aM, 0, none⟩ (.bool nt)).setCell ⟨aM, 1, none⟩ (.slice to_ tl tc)).setCell ⟨aM, 2, none⟩ (.slice tO tL tC)).setCell ⟨aM, 3, none⟩ (.bool mt)).setCell ⟨aM, 4, none⟩ (.slice tp tq tr)).setCell ⟨aM, 5, none⟩ (.slice tP tQ tR)) (ap) np (.slice po pl pc) (.slice pO pL pC)) := (((((((qp.below B).other (by omega) 0 _).other (by omega) 1 _).other (by omega) 2 _).other (by omega) 3 _).other (by omega) 4 _).other (by omega) 5 _)
        have N_rp : Hid (RNum ((((((u7.setCell ⟨aM, 0, none⟩ (.bool nt)).setCell ⟨aM, 1, none⟩ (.slice to_ tl tc)).setCell ⟨aM, 2, none⟩ (.slice tO tL tC)).setCell ⟨aM, 3, none⟩ (.bool mt)).setCell ⟨aM, 4, none⟩ (.slice tp tq tr)).setCell ⟨aM, 5, none⟩ (.slice tP tQ tR)) (.agg #[.bool np, .slice po pl pc, .slice pO pL pC]) (VA c x i) 400) := (rp.below B).boxW (qM.below B).nointS (set6_other _ _ _ _ _ _ _ _)
        have N_qq : Hid (QCell ((((((u7.setCell ⟨aM, 0, none⟩ (.bool nt)).setCell ⟨aM, 1, none⟩ (.slice to_ tl tc)).setCell ⟨aM, 2, none⟩ (.slice tO tL tC)).setCell ⟨aM, 3, none⟩ (.bool mt)).setCell ⟨aM, 4, none⟩ (.slice tp tq tr)).setCell ⟨aM, 5, none⟩ (.slice tP tQ tR)) (aq) nq (.slice qo ql qc) (.slice qO qL qC)) := (((((((qq.below B).other (by omega) 0 _).other (by omega) 1 _).other (by omega) 2 _).other (by omega) 3 _).other (by omega) 4 _).other (by omega) 5 _)
        have N_rq : Hid (RNum ((((((u7.setCell ⟨aM, 0, none⟩ (.bool nt)).setCell ⟨aM, 1, none⟩ (.slice to_ tl tc)).setCell ⟨aM, 2, none⟩ (.slice tO tL tC)).setCell ⟨aM, 3, none⟩ (.bool mt)).setCell ⟨aM, 4, none⟩ (.slice tp tq tr)).setCell ⟨aM, 5, none⟩ (.slice tP tQ tR)) (.agg #[.bool nq, .slice qo ql qc, .slice qO qL qC]) (SB c x i) 400) := (rq.below B).boxW (qM.below B).nointS (set6_other _ _ _ _ _ _ _ _)
        have N_qM : Hid (SlC ((((((u7.setCell ⟨aM, 0, none⟩ (.bool nt)).setCell ⟨aM, 1, none⟩ (.slice to_ tl tc)).setCell ⟨aM, 2, none⟩ (.slice tO tL tC)).setCell ⟨aM, 3, none⟩ (.bool mt)).setCell ⟨aM, 4, none⟩ (.slice tp tq tr)).setCell ⟨aM, 5, none⟩ (.slice tP tQ tR)) (aM) nt (.slice to_ tl tc) (.slice tO tL tC) mt (.slice tp tq tr) (.slice tP tQ tR)) := (qM.below B).write _ _ _ _ _ _
        have N_rm1 : Hid (RNum ((((((u7.setCell ⟨aM, 0, none⟩ (.bool nt)).setCell ⟨aM, 1, none⟩ (.slice to_ tl tc)).setCell ⟨aM, 2, none⟩ (.slice tO tL tC)).setCell ⟨aM, 3, none⟩ (.bool mt)).setCell ⟨aM, 4, none⟩ (.slice tp tq tr)).setCell ⟨aM, 5, none⟩ (.slice tP tQ tR)) (.agg #[.bool nt, .slice to_ tl tc, .slice tO tL tC]) (VA c x (i + 1)) 400) := rt1.boxW (qM.below B).nointS (set6_other _ _ _ _ _ _ _ _)
        have N_rm2 : Hid (RNum ((((((u7.setCell ⟨aM, 0, none⟩ (.bool nt)).setCell ⟨aM, 1, none⟩ (.slice to_ tl tc)).setCell ⟨aM, 2, none⟩ (.slice tO tL tC)).setCell ⟨aM, 3, none⟩ (.bool mt)).setCell ⟨aM, 4, none⟩ (.slice tp tq tr)).setCell ⟨aM, 5, none⟩ (.slice tP tQ tR)) (.agg #[.bool mt, .slice tp tq tr, .slice tP tQ tR]) (SB c x (i + 1)) 400) := rt2.boxW (qM.below B).nointS (set6_other _ _ _ _ _ _ _ _)
        have N_qCc : Hid (QCell ((((((u7.setCell ⟨aM, 0, none⟩ (.bool nt)).setCell ⟨aM, 1, none⟩ (.slice to_ tl tc)).setCell ⟨aM, 2, none⟩ (.slice tO tL tC)).setCell ⟨aM, 3, none⟩ (.bool mt)).setCell ⟨aM, 4, none⟩ (.slice tp tq tr)).setCell ⟨aM, 5, none⟩ (.slice tP tQ tR)) (aCc) ne (.slice eo el ec) (.slice eO eL eC)) := (((((((qCc.below B).other (by omega) 0 _).other (by omega) 1 _).other (by omega) 2 _).other (by omega) 3 _).other (by omega) 4 _).other (by omega) 5 _)
        have N_qy : Hid (QCell ((((((u7.setCell ⟨aM, 0, none⟩ (.bool nt)).setCell ⟨aM, 1, none⟩ (.slice to_ tl tc)).setCell ⟨aM, 2, none⟩ (.slice tO tL tC)).setCell ⟨aM, 3, none⟩ (.bool mt)).setCell ⟨aM, 4, none⟩ (.slice tp tq tr)).setCell ⟨aM, 5, none⟩ (.slice tP tQ tR)) (ay) ny (.slice yo yl yc) (.slice yO yL yC)) := (((((((qy.below B).other (by omega) 0 _).other (by omega) 1 _).other (by omega) 2 _).other (by omega) 3 _).other (by omega) 4 _).other (by omega) 5 _)
        have N_ry : Hid (RNum ((((((u7.setCell ⟨aM, 0, none⟩ (.bool nt)).setCell ⟨aM, 1, none⟩ (.slice to_ tl tc)).setCell ⟨aM, 2, none⟩ (.slice tO tL tC)).setCell ⟨aM, 3, none⟩ (.bool mt)).setCell ⟨aM, 4, none⟩ (.slice tp tq tr)).setCell ⟨aM, 5, none⟩ (.slice tP tQ tR)) (.agg #[.bool ny, .slice yo yl yc, .slice yO yL yC]) (sp1 x i) 20) := (ry.below B).boxW (qM.below B).nointS (set6_other _ _ _ _ _ _ _ _)
        have N_bw : Hid (Below g w ((((((u7.setCell ⟨aM, 0, none⟩ (.bool nt)).setCell ⟨aM, 1, none⟩ (.slice to_ tl tc)).setCell ⟨aM, 2, none⟩ (.slice tO tL tC)).setCell ⟨aM, 3, none⟩ (.bool mt)).setCell ⟨aM, 4, none⟩ (.slice tp tq tr)).setCell ⟨aM, 5, none⟩ (.slice tP tQ tR))) := (((((((bw.trans (B.mono (by omega)))).setCell (p := ⟨aM, 0, none⟩) (by show g ≤ aM; omega) _).setCell (p := ⟨aM, 1, none⟩) (by show g ≤ aM; omega) _).setCell (p := ⟨aM, 2, none⟩) (by show g ≤ aM; omega) _).setCell (p := ⟨aM, 3, none⟩) (by show g ≤ aM; omega) _).setCell (p := ⟨aM, 4, none⟩) (by show g ≤ aM; omega) _).setCell (p := ⟨aM, 5, none⟩) (by show g ≤ aM; omega) _
        have N_zw : Hid (g + 1 ≤ ((((((u7.setCell ⟨aM, 0, none⟩ (.bool nt)).setCell ⟨aM, 1, none⟩ (.slice to_ tl tc)).setCell ⟨aM, 2, none⟩ (.slice tO tL tC)).setCell ⟨aM, 3, none⟩ (.bool mt)).setCell ⟨aM, 4, none⟩ (.slice tp tq tr)).setCell ⟨aM, 5, none⟩ (.slice tP tQ tR)).heap.size) := by show _ ≤ _; have := B.size; simp [World.setCell]; omega
        obtain ⟨y0, y1, y2, y3, y4, y5⟩ := (qM.below B).cells
        have f0 := (qM.below B).thaw 0
        have f1 := (qM.below B).thaw 1
        have f2 := (qM.below B).thaw 2
        have f3 := (qM.below B).thaw 3
        have f4 := (qM.below B).thaw 4
        have f5 := (qM.below B).thaw 5
        refine L3.late_step 9 (by kernel_rfl) rfl (fun K hK => ?_)
        go_simp
        refine hK.out _ _ ⟨Or.inr trivial, Or.inl ⟨9, by kernel_rfl, by kernel_rfl⟩, Or.inr trivial, Or.inl ⟨9, by kernel_rfl, by kernel_rfl⟩, Or.inl ⟨9, by kernel_rfl, by kernel_rfl⟩, trivial⟩ ?_
        clear hK K
        (try simp only [Act.put, List.setIfInBounds_toArray, List.set_cons_zero, List.set_cons_succ])
        clear y0 y1 y2 y3 y4 y5 f0 f1 f2 f3 f4 f5 hap
        refine L3.late_done (by kernel_rfl) ?_ _
        clear hHeld KEEP
        clear B ri0 tj1 tj2 rt1 rt2 qX qp rp qq rq qM rm1 rm2 qCc qz rz1 rz2 ry qy bw zw
        obtain ⟨w15, hw15⟩ : ∃ u, u = ((((((u7.setCell ⟨aM, 0, none⟩ (.bool nt)).setCell ⟨aM, 1, none⟩ (.slice to_ tl tc)).setCell ⟨aM, 2, none⟩ (.slice tO tL tC)).setCell ⟨aM, 3, none⟩ (.bool mt)).setCell ⟨aM, 4, none⟩ (.slice tp tq tr)).setCell ⟨aM, 5, none⟩ (.slice tP tQ tR)) := ⟨_, rfl⟩
        rw [← hw15] at N_qX N_qp N_rp N_qq N_rq N_qM N_rm1 N_rm2 N_qCc N_qy N_ry N_bw N_zw ⊢
        clear hw15
        have qX := N_qX.out
        have qp := N_qp.out
        have rp := N_rp.out
        have qq := N_qq.out
        have rq := N_rq.out
        have qM := N_qM.out
        have rm1 := N_rm1.out
        have rm2 := N_rm2.out
        have qCc := N_qCc.out
        have qy := N_qy.out
        have ry := N_ry.out
        have bw := N_bw.out
        have zw := N_zw.out
        clear N_qX N_qp N_rp N_qq N_rq N_qM N_rm1 N_rm2 N_qCc N_qy N_ry N_bw N_zw
        have H_qX : Hid (QCell w15 (g) nx (.slice xo xl2 xc) (.slice xO xL2 xC)) := qX
        have H_qp : Hid (QCell w15 (ap) np (.slice po pl pc) (.slice pO pL pC)) := qp
        have H_rp : Hid (RNum w15 (.agg #[.bool np, .slice po pl pc, .slice pO pL pC]) (VA c x i) 400) := rp
        have H_qq : Hid (QCell w15 (aq) nq (.slice qo ql qc) (.slice qO qL qC)) := qq
        have H_rq : Hid (RNum w15 (.agg #[.bool nq, .slice qo ql qc, .slice qO qL qC]) (SB c x i) 400) := rq
        have H_qM : Hid (SlC w15 (aM) nt (.slice to_ tl tc) (.slice tO tL tC) mt (.slice tp tq tr) (.slice tP tQ tR)) := qM
        have H_rm1 : Hid (RNum w15 (.agg #[.bool nt, .slice to_ tl tc, .slice tO tL tC]) (VA c x (i + 1)) 400) := rm1
        have H_rm2 : Hid (RNum w15 (.agg #[.bool mt, .slice tp tq tr, .slice tP tQ tR]) (SB c x (i + 1)) 400) := rm2
        have H_qCc : Hid (QCell w15 (aCc) ne (.slice eo el ec) (.slice eO eL eC)) := qCc
        have H_qy : Hid (QCell w15 (ay) ny (.slice yo yl yc) (.slice yO yL yC)) := qy
        have H_ry : Hid (RNum w15 (.agg #[.bool ny, .slice yo yl yc, .slice yO yL yC]) (sp1 x i) 20) := ry
        have H_bw : Hid (Below g w w15) := bw
        have H_zw : Hid (g + 1 ≤ w15.heap.size) := zw
        clear qX qp rp qq rq qM rm1 rm2 qCc qy ry bw zw
        go_upto_region 16 with fail
        have qX := H_qX.out
        have qp := H_qp.out
        have rp := H_rp.out
        have qq := H_qq.out
        have rq := H_rq.out
        have qM := H_qM.out
        have rm1 := H_rm1.out
        have rm2 := H_rm2.out
        have qCc := H_qCc.out
        have qy := H_qy.out
        have ry := H_ry.out
        have bw := H_bw.out
        have zw := H_zw.out
        clear H_qX H_qp H_rp H_qq H_rq H_qM H_rm1 H_rm2 H_qCc H_qy H_ry H_bw H_zw
        have KEEP : ∀ u, Below w15.heap.size w15 u → L3.AllL u [(0, fun w' => w'.cell? ⟨ap, 0, none⟩ = some (.bool np) ∧ w'.cell? ⟨ap, 1, none⟩ = some (.slice po pl pc) ∧ w'.cell? ⟨ap, 2, none⟩ = some (.slice pO pL pC)), (1, fun w' => w'.cell? ⟨aCc, 0, none⟩ = some (.bool ne) ∧ w'.cell? ⟨aCc, 1, none⟩ = some (.slice eo el ec) ∧ w'.cell? ⟨aCc, 2, none⟩ = some (.slice eO eL eC)), (2, fun w' => w'.cell? ⟨ay, 0, none⟩ = some (.bool ny) ∧ w'.cell? ⟨ay, 1, none⟩ = some (.slice yo yl yc) ∧ w'.cell? ⟨ay, 2, none⟩ = some (.slice yO yL yC))] := fun u hu => ⟨(qp.below hu).cells, (qCc.below hu).cells, (qy.below hu).cells, trivial⟩
        refine L3.region_late [(0, fun w' => w'.cell? ⟨ap, 0, none⟩ = some (.bool np) ∧ w'.cell? ⟨ap, 1, none⟩ = some (.slice po pl pc) ∧ w'.cell? ⟨ap, 2, none⟩ = some (.slice pO pL pC)), (1, fun w' => w'.cell? ⟨aCc, 0, none⟩ = some (.bool ne) ∧ w'.cell? ⟨aCc, 1, none⟩ = some (.slice eo el ec) ∧ w'.cell? ⟨aCc, 2, none⟩ = some (.slice eO eL eC)), (2, fun w' => w'.cell? ⟨ay, 0, none⟩ = some (.bool ny) ∧ w'.cell? ⟨ay, 1, none⟩ = some (.slice yo yl yc) ∧ w'.cell? ⟨ay, 2, none⟩ = some (.slice yO yL yC))] (by kernel_rfl) ?_
        have B : Below w15.heap.size w15 w15.drew := (Below.refl _ _).drew
        obtain ⟨w8, hw8⟩ : ∃ u, u = w15.drew := ⟨_, rfl⟩
        rw [← hw8] at B ⊢
        clear hw8
        have hHeld := KEEP _ B
        refine L3.late_take 0 (v := .agg #[.bool np, .slice po pl pc, .slice pO pL pC]) rfl (by kernel_rfl) (List.Mem.head _) (by kernel_rfl) (by kernel_rfl) (by kernel_rfl) (by kernel_rfl) (fun _ _ _ h => h) (Or.inl ⟨by rfl, ?_⟩) hHeld ?_
        · (intro u hu; (try dsimp only at hu); go_split_ands; go_simp)
        (try simp only [Act.put, List.setIfInBounds_toArray, List.set_cons_zero, List.set_cons_succ])
        refine L3.late_take 1 (v := .agg #[.bool ne, .slice eo el ec, .slice eO eL eC]) rfl (by kernel_rfl) (List.Mem.tail _ (List.Mem.head _)) (by kernel_rfl) (by kernel_rfl) (by kernel_rfl) (by kernel_rfl) (fun _ _ _ h => h) (Or.inl ⟨by rfl, ?_⟩) hHeld ?_
        · (intro u hu; (try dsimp only at hu); go_split_ands; go_simp)
        (try simp only [Act.put, List.setIfInBounds_toArray, List.set_cons_zero, List.set_cons_succ])
        refine L3.late_take 2 (v := .agg #[.bool ny, .slice yo yl yc, .slice yO yL yC]) rfl (by kernel_rfl) (List.Mem.tail _ (List.Mem.tail _ (List.Mem.head _))) (by kernel_rfl) (by kernel_rfl) (by kernel_rfl) (by kernel_rfl) (fun _ _ _ h => h) (Or.inl ⟨by rfl, ?_⟩) hHeld ?_
        · (intro u hu; (try dsimp only at hu); go_split_ands; go_simp)
        (try simp only [Act.put, List.setIfInBounds_toArray, List.set_cons_zero, List.set_cons_succ])
        refine L3.late_step 3 (by kernel_rfl) rfl (fun K hK => ?_)
        go_simp
        refine (c_rmul (RCi.out _ (by rw [← HG.out]; exact bw.trans (B.mono (by omega)))) (ry.below B) (by decide)).mono ?_
        rintro e u9 ⟨v, rfl, hj, c9⟩
        obtain ⟨nj, jo, jl, jc, jO, jL, jC, rfl⟩ := hj.seeV
        have rj := hj.nm (L := 40) (szMul SCi.out (SP_.out i (by omega)).1 |>.mono (by decide)) (by decide)
        clear hj
        have B := B.trans (c9.mono B.size)
        clear c9 hHeld
        have hHeld := KEEP _ B
        go_wp2_with fail
        refine hK.out _ _ (L3.AllL.kept hHeld) ?_
        clear hK K
        (try simp only [Act.put, List.setIfInBounds_toArray, List.set_cons_zero, List.set_cons_succ])
        refine L3.late_step 4 (by kernel_rfl) rfl (fun K hK => ?_)
        go_simp
        refine (c_radd (rp.below B) rj (by decide)).mono ?_
        rintro e u10 ⟨v, rfl, ht, c10⟩
        obtain ⟨nk, ko, kl, kc, kO, kL, kC, rfl⟩ := ht.seeV
        have rk := ht.nm (L := 400) (r := VA c x (i + 1)) (SV.out (i + 1) (by omega)).1 (by decide)
        clear ht
        have B := B.trans (c10.mono B.size)
        replace rj := rj.below c10
        clear c10 hHeld
        have hHeld := KEEP _ B
        go_wp2_with fail
        refine hK.out _ _ (L3.AllL.kept hHeld) ?_
        clear hK K
        (try simp only [Act.put, List.setIfInBounds_toArray, List.set_cons_zero, List.set_cons_succ])
        have hap := HAP.out
        have N_qp : Hid (QCell (((u10.setCell ⟨ap, 0, none⟩ (.bool nk)).setCell ⟨ap, 1, none⟩ (.slice ko kl kc)).setCell ⟨ap, 2, none⟩ (.slice kO kL kC)) (ap) nk (.slice ko kl kc) (.slice kO kL kC)) := (qp.below B).write _ _ _
        have N_rp : Hid (RNum (((u10.setCell ⟨ap, 0, none⟩ (.bool nk)).setCell ⟨ap, 1, none⟩ (.slice ko kl kc)).setCell ⟨ap, 2, none⟩ (.slice kO kL kC)) (.agg #[.bool nk, .slice ko kl kc, .slice kO kL kC]) (VA c x (i + 1)) 400) := rnum_box rk (qp.below B) _ _ _
        have N_qX : Hid (QCell (((u10.setCell ⟨ap, 0, none⟩ (.bool nk)).setCell ⟨ap, 1, none⟩ (.slice ko kl kc)).setCell ⟨ap, 2, none⟩ (.slice kO kL kC)) (g) nx (.slice xo xl2 xc) (.slice xO xL2 xC)) := (((qX.below B).other (by omega) 0 _).other (by omega) 1 _).other (by omega) 2 _
        have N_qq : Hid (QCell (((u10.setCell ⟨ap, 0, none⟩ (.bool nk)).setCell ⟨ap, 1, none⟩ (.slice ko kl kc)).setCell ⟨ap, 2, none⟩ (.slice kO kL kC)) (aq) nq (.slice qo ql qc) (.slice qO qL qC)) := (((qq.below B).other (by omega) 0 _).other (by omega) 1 _).other (by omega) 2 _
        have N_rq : Hid (RNum (((u10.setCell ⟨ap, 0, none⟩ (.bool nk)).setCell ⟨ap, 1, none⟩ (.slice ko kl kc)).setCell ⟨ap, 2, none⟩ (.slice kO kL kC)) (.agg #[.bool nq, .slice qo ql qc, .slice qO qL qC]) (SB c x i) 400) := rnum_box (rq.below B) (qp.below B) _ _ _
        have N_qM : Hid (SlC (((u10.setCell ⟨ap, 0, none⟩ (.bool nk)).setCell ⟨ap, 1, none⟩ (.slice ko kl kc)).setCell ⟨ap, 2, none⟩ (.slice kO kL kC)) (aM) nt (.slice to_ tl tc) (.slice tO tL tC) mt (.slice tp tq tr) (.slice tP tQ tR)) := (((qM.below B).other (by omega) 0 _).other (by omega) 1 _).other (by omega) 2 _
        have N_rm1 : Hid (RNum (((u10.setCell ⟨ap, 0, none⟩ (.bool nk)).setCell ⟨ap, 1, none⟩ (.slice ko kl kc)).setCell ⟨ap, 2, none⟩ (.slice kO kL kC)) (.agg #[.bool nt, .slice to_ tl tc, .slice tO tL tC]) (VA c x (i + 1)) 400) := rnum_box (rm1.below B) (qp.below B) _ _ _
        have N_rm2 : Hid (RNum (((u10.setCell ⟨ap, 0, none⟩ (.bool nk)).setCell ⟨ap, 1, none⟩ (.slice ko kl kc)).setCell ⟨ap, 2, none⟩ (.slice kO kL kC)) (.agg #[.bool mt, .slice tp tq tr, .slice tP tQ tR]) (SB c x (i + 1)) 400) := rnum_box (rm2.below B) (qp.below B) _ _ _
        have N_qCc : Hid (QCell (((u10.setCell ⟨ap, 0, none⟩ (.bool nk)).setCell ⟨ap, 1, none⟩ (.slice ko kl kc)).setCell ⟨ap, 2, none⟩ (.slice kO kL kC)) (aCc) ne (.slice eo el ec) (.slice eO eL eC)) := (((qCc.below B).other (by omega) 0 _).other (by omega) 1 _).other (by omega) 2 _
        have N_bw : Hid (Below g w (((u10.setCell ⟨ap, 0, none⟩ (.bool nk)).setCell ⟨ap, 1, none⟩ (.slice ko kl kc)).setCell ⟨ap, 2, none⟩ (.slice kO kL kC))) := ((((bw.trans (B.mono (by omega)))).setCell (p := ⟨ap, 0, none⟩) (by show g ≤ ap; omega) _).setCell (p := ⟨ap, 1, none⟩) (by show g ≤ ap; omega) _).setCell (p := ⟨ap, 2, none⟩) (by show g ≤ ap; omega) _
        have N_zw : Hid (g + 1 ≤ (((u10.setCell ⟨ap, 0, none⟩ (.bool nk)).setCell ⟨ap, 1, none⟩ (.slice ko kl kc)).setCell ⟨ap, 2, none⟩ (.slice kO kL kC)).heap.size) := by show _ ≤ _; have := B.size; simp [World.setCell]; omega
        obtain ⟨y0, y1, y2⟩ := (qp.below B).cells
        have f0 := (qp.below B).thaw 0
        have f1 := (qp.below B).thaw 1
        have f2 := (qp.below B).thaw 2
        refine L3.late_step 5 (by kernel_rfl) rfl (fun K hK => ?_)
        go_simp
        refine hK.out _ _ ⟨Or.inl ⟨5, by kernel_rfl, by kernel_rfl⟩, Or.inl ⟨5, by kernel_rfl, by kernel_rfl⟩, Or.inl ⟨5, by kernel_rfl, by kernel_rfl⟩, trivial⟩ ?_
        clear hK K
        (try simp only [Act.put, List.setIfInBounds_toArray, List.set_cons_zero, List.set_cons_succ])
        clear y0 y1 y2 f0 f1 f2 hap
        refine L3.late_done (by kernel_rfl) ?_ _
        clear hHeld KEEP
        clear B rj rk qX qp rp qq rq qM rm1 rm2 qCc qy ry bw zw
        obtain ⟨w16, hw16⟩ : ∃ u, u = (((u10.setCell ⟨ap, 0, none⟩ (.bool nk)).setCell ⟨ap, 1, none⟩ (.slice ko kl kc)).setCell ⟨ap, 2, none⟩ (.slice kO kL kC)) := ⟨_, rfl⟩
        rw [← hw16] at N_qp N_rp N_qX N_qq N_rq N_qM N_rm1 N_rm2 N_qCc N_bw N_zw ⊢
        clear hw16
        have qp := N_qp.out
        have rp := N_rp.out
        have qX := N_qX.out
        have qq := N_qq.out
        have rq := N_rq.out
        have qM := N_qM.out
        have rm1 := N_rm1.out
        have rm2 := N_rm2.out
        have qCc := N_qCc.out
        have bw := N_bw.out
        have zw := N_zw.out
        clear N_qp N_rp N_qX N_qq N_rq N_qM N_rm1 N_rm2 N_qCc N_bw N_zw
        by_cases hi : i = 0
        · have hi0 : ¬ (i : Int) > 0 := by omega
          have hie : i = 0 := by omega
          subst hie
          rw [← SB_one c x] at rq
          have HN : Hid (QCell w16 (g) nx (.slice xo xl2 xc) (.slice xO xL2 xC) ∧ QCell w16 (ap) nk (.slice ko kl kc) (.slice kO kL kC) ∧ RNum w16 (.agg #[.bool nk, .slice ko kl kc, .slice kO kL kC]) (VA c x (0 + 1)) 400 ∧ QCell w16 (aq) nq (.slice qo ql qc) (.slice qO qL qC) ∧ RNum w16 (.agg #[.bool nq, .slice qo ql qc, .slice qO qL qC]) (SB c x (0 + 1)) 400 ∧ SlC w16 (aM) nt (.slice to_ tl tc) (.slice tO tL tC) mt (.slice tp tq tr) (.slice tP tQ tR) ∧ RNum w16 (.agg #[.bool nt, .slice to_ tl tc, .slice tO tL tC]) (VA c x (0 + 1)) 400 ∧ RNum w16 (.agg #[.bool mt, .slice tp tq tr, .slice tP tQ tR]) (SB c x (0 + 1)) 400 ∧ Below g w w16 ∧ g + 1 ≤ w16.heap.size) := ⟨qX, qp, rp, qq, rq, qM, rm1, rm2, bw, zw⟩
          clear qp rp qX qq rq qM rm1 rm2 qCc bw zw
          go_wp2_with fail
          go_roundg (m0 - (0 + 1))
          case measure => omega
          case rel => exact ⟨0 + 1, _, _, _, _, _, _, _, _, _, _, _, _, _, _, _, _, _, _, _, _, _, _, _, _, _, _, _, _, by go_num, by omega, Nat.le_refl _, HN⟩
        · have hi0 : (i : Int) > 0 := by omega
          obtain ⟨j, hj⟩ : ∃ j, i = j + 1 := ⟨i - 1, by omega⟩
          have HJ : Hid (i = j + 1) := hj
          have hij : (i : Int) - 1 = (j : Int) := by omega
          have hwi : IntKind.i64.wrap ((i : Int) - 1) = (j : Int) := by rw [IntKind.wrap_i64]; omega
          clear hj
          have hj8 : j ≤ 8 := by have := HJ.out; omega
          have CC : Hid _ := powRats j 2 20 w16 (RX.out _ (by rw [← HG.out]; exact bw)) (fun q hq => (SP_.out q (by omega)).1) (by decide) (by omega)
          obtain ⟨cX0, cX1, cX2⟩ := qX.cells
          have H_qp : Hid (QCell w16 (ap) nk (.slice ko kl kc) (.slice kO kL kC)) := qp
          have H_rp : Hid (RNum w16 (.agg #[.bool nk, .slice ko kl kc, .slice kO kL kC]) (VA c x (i + 1)) 400) := rp
          have H_qX : Hid (QCell w16 (g) nx (.slice xo xl2 xc) (.slice xO xL2 xC)) := qX
          have H_qq : Hid (QCell w16 (aq) nq (.slice qo ql qc) (.slice qO qL qC)) := qq
          have H_rq : Hid (RNum w16 (.agg #[.bool nq, .slice qo ql qc, .slice qO qL qC]) (SB c x i) 400) := rq
          have H_qM : Hid (SlC w16 (aM) nt (.slice to_ tl tc) (.slice tO tL tC) mt (.slice tp tq tr) (.slice tP tQ tR)) := qM
          have H_rm1 : Hid (RNum w16 (.agg #[.bool nt, .slice to_ tl tc, .slice tO tL tC]) (VA c x (i + 1)) 400) := rm1
          have H_rm2 : Hid (RNum w16 (.agg #[.bool mt, .slice tp tq tr, .slice tP tQ tR]) (SB c x (i + 1)) 400) := rm2
          have H_qCc : Hid (QCell w16 (aCc) ne (.slice eo el ec) (.slice eO eL eC)) := qCc
          have H_bw : Hid (Below g w w16) := bw
          have H_zw : Hid (g + 1 ≤ w16.heap.size) := zw
          clear qp rp qX qq rq qM rm1 rm2 qCc bw zw
          go_wp2_with fail
          refine Calls.mono CC.out ?_
          rintro e x13 ⟨v, rfl, hl, b13⟩
          clear CC cX0 cX1 cX2
          have qp := H_qp.out
          have rp := H_rp.out
          have qX := H_qX.out
          have qq := H_qq.out
          have rq := H_rq.out
          have qM := H_qM.out
          have rm1 := H_rm1.out
          have rm2 := H_rm2.out
          have qCc := H_qCc.out
          have bw := H_bw.out
          have zw := H_zw.out
          clear H_qp H_rp H_qX H_qq H_rq H_qM H_rm1 H_rm2 H_qCc H_bw H_zw
          replace qp := qp.below b13
          replace rp := rp.below b13
          replace qX := qX.below b13
          replace qq := qq.below b13
          replace rq := rq.below b13
          replace qM := qM.below b13
          replace rm1 := rm1.below b13
          replace rm2 := rm2.below b13
          replace qCc := qCc.below b13
          replace bw := bw.trans (b13.mono (by omega))
          replace zw := Nat.le_trans zw b13.size
          clear b13
          obtain ⟨nl, lo_, ll, lc_, lO, lL, lC, rfl⟩ := hl.seeV
          have rl : RNum x13 (.agg #[.bool nl, .slice lo_ ll lc_, .slice lO lL lC]) (sp1 x j) 20 := hl.nm (SP_.out j (by omega)).1 (by decide)
          clear hl
          obtain ⟨V14, hV14⟩ : ∃ u, u = x13.alloc (.cells #[.bool nl, .slice lo_ ll lc_, .slice lO lL lC] 27) := ⟨_, rfl⟩
          obtain ⟨at_, hat_⟩ : ∃ s, s = x13.heap.size := ⟨_, rfl⟩
          have qt_ : QCell V14 (at_) nl (.slice lo_ ll lc_) (.slice lO lL lC) := by rw [hV14]; exact qcell_new _ hat_.symm
          have bq : Below x13.heap.size x13 V14 := by rw [hV14]; exact belowA _ _
          have lt_ : g + 1 ≤ at_ := by rw [hat_]; exact zw
          have HV14 : Hid (V14 = x13.alloc (.cells #[.bool nl, .slice lo_ ll lc_, .slice lO lL lC] 27)) := hV14
          have Hat_ : Hid (at_ = x13.heap.size) := hat_
          clear hV14 hat_
          replace qp := qp.below bq
          replace rp := rp.below bq
          replace qX := qX.below bq
          replace qq := qq.below bq
          replace rq := rq.below bq
          replace qM := qM.below bq
          replace rm1 := rm1.below bq
          replace rm2 := rm2.below bq
          replace qCc := qCc.below bq
          replace rl := rl.below bq
          replace bw := bw.trans (bq.mono (by omega))
          replace zw := Nat.le_trans zw bq.size
          clear bq
          have H_qp : Hid (QCell V14 (ap) nk (.slice ko kl kc) (.slice kO kL kC)) := qp
          have H_rp : Hid (RNum V14 (.agg #[.bool nk, .slice ko kl kc, .slice kO kL kC]) (VA c x (i + 1)) 400) := rp
          have H_qX : Hid (QCell V14 (g) nx (.slice xo xl2 xc) (.slice xO xL2 xC)) := qX
          have H_qq : Hid (QCell V14 (aq) nq (.slice qo ql qc) (.slice qO qL qC)) := qq
          have H_rq : Hid (RNum V14 (.agg #[.bool nq, .slice qo ql qc, .slice qO qL qC]) (SB c x i) 400) := rq
          have H_qM : Hid (SlC V14 (aM) nt (.slice to_ tl tc) (.slice tO tL tC) mt (.slice tp tq tr) (.slice tP tQ tR)) := qM
          have H_rm1 : Hid (RNum V14 (.agg #[.bool nt, .slice to_ tl tc, .slice tO tL tC]) (VA c x (i + 1)) 400) := rm1
          have H_rm2 : Hid (RNum V14 (.agg #[.bool mt, .slice tp tq tr, .slice tP tQ tR]) (SB c x (i + 1)) 400) := rm2
          have H_qCc : Hid (QCell V14 (aCc) ne (.slice eo el ec) (.slice eO eL eC)) := qCc
          have H_rl : Hid (RNum V14 (.agg #[.bool nl, .slice lo_ ll lc_, .slice lO lL lC]) (sp1 x j) 20) := rl
          have H_qt_ : Hid (QCell V14 (at_) nl (.slice lo_ ll lc_) (.slice lO lL lC)) := qt_
          have H_bw : Hid (Below g w V14) := bw
          have H_zw : Hid (g + 1 ≤ V14.heap.size) := zw
          clear qp rp qX qq rq qM rm1 rm2 qCc rl qt_ bw zw
          go_upto_region 19 with fail
          rw [← HV14.out, ← Hat_.out]
          clear HV14 Hat_
          have qp := H_qp.out
          have rp := H_rp.out
          have qX := H_qX.out
          have qq := H_qq.out
          have rq := H_rq.out
          have qM := H_qM.out
          have rm1 := H_rm1.out
          have rm2 := H_rm2.out
          have qCc := H_qCc.out
          have rl := H_rl.out
          have qt_ := H_qt_.out
          have bw := H_bw.out
          have zw := H_zw.out
          clear H_qp H_rp H_qX H_qq H_rq H_qM H_rm1 H_rm2 H_qCc H_rl H_qt_ H_bw H_zw
          clear lt_
          have KEEP : ∀ u, Below V14.heap.size V14 u → L3.AllL u [(0, fun w' => w'.cell? ⟨aq, 0, none⟩ = some (.bool nq) ∧ w'.cell? ⟨aq, 1, none⟩ = some (.slice qo ql qc) ∧ w'.cell? ⟨aq, 2, none⟩ = some (.slice qO qL qC)), (1, fun w' => w'.cell? ⟨aCc, 0, none⟩ = some (.bool ne) ∧ w'.cell? ⟨aCc, 1, none⟩ = some (.slice eo el ec) ∧ w'.cell? ⟨aCc, 2, none⟩ = some (.slice eO eL eC)), (5, fun w' => w'.cell? ⟨at_, 0, none⟩ = some (.bool nl) ∧ w'.cell? ⟨at_, 1, none⟩ = some (.slice lo_ ll lc_) ∧ w'.cell? ⟨at_, 2, none⟩ = some (.slice lO lL lC))] := fun u hu => ⟨(qq.below hu).cells, (qCc.below hu).cells, (qt_.below hu).cells, trivial⟩
          refine L3.region_late [(0, fun w' => w'.cell? ⟨aq, 0, none⟩ = some (.bool nq) ∧ w'.cell? ⟨aq, 1, none⟩ = some (.slice qo ql qc) ∧ w'.cell? ⟨aq, 2, none⟩ = some (.slice qO qL qC)), (1, fun w' => w'.cell? ⟨aCc, 0, none⟩ = some (.bool ne) ∧ w'.cell? ⟨aCc, 1, none⟩ = some (.slice eo el ec) ∧ w'.cell? ⟨aCc, 2, none⟩ = some (.slice eO eL eC)), (5, fun w' => w'.cell? ⟨at_, 0, none⟩ = some (.bool nl) ∧ w'.cell? ⟨at_, 1, none⟩ = some (.slice lo_ ll lc_) ∧ w'.cell? ⟨at_, 2, none⟩ = some (.slice lO lL lC))] (by kernel_rfl) ?_
          have B : Below V14.heap.size V14 V14.drew := (Below.refl _ _).drew
          obtain ⟨w11, hw11⟩ : ∃ u, u = V14.drew := ⟨_, rfl⟩
          rw [← hw11] at B ⊢
          clear hw11
          have hHeld := KEEP _ B
          refine L3.late_take 0 (v := .agg #[.bool nq, .slice qo ql qc, .slice qO qL qC]) rfl (by kernel_rfl) (List.Mem.head _) (by kernel_rfl) (by kernel_rfl) (by kernel_rfl) (by kernel_rfl) (fun _ _ _ h => h) (Or.inl ⟨by rfl, ?_⟩) hHeld ?_
          · (intro u hu; (try dsimp only at hu); go_split_ands; go_simp)
          (try simp only [Act.put, List.setIfInBounds_toArray, List.set_cons_zero, List.set_cons_succ])
          refine L3.late_take 1 (v := .agg #[.bool ne, .slice eo el ec, .slice eO eL eC]) rfl (by kernel_rfl) (List.Mem.tail _ (List.Mem.head _)) (by kernel_rfl) (by kernel_rfl) (by kernel_rfl) (by kernel_rfl) (fun _ _ _ h => h) (Or.inl ⟨by rfl, ?_⟩) hHeld ?_
          · (intro u hu; (try dsimp only at hu); go_split_ands; go_simp)
          (try simp only [Act.put, List.setIfInBounds_toArray, List.set_cons_zero, List.set_cons_succ])
          refine L3.late_free 2 (v := .int .i64 i) rfl (by kernel_rfl) (by kernel_rfl) (by kernel_rfl) (by kernel_rfl) (by kernel_rfl) (by kernel_rfl) (fun _ _ _ h => h) (Or.inl ⟨by rfl, ?_⟩) hHeld ?_
          · (intro u _; go_simp)
          (try simp only [Act.put, List.setIfInBounds_toArray, List.set_cons_zero, List.set_cons_succ])
          refine L3.late_take 5 (v := .agg #[.bool nl, .slice lo_ ll lc_, .slice lO lL lC]) rfl (by kernel_rfl) (List.Mem.tail _ (List.Mem.tail _ (List.Mem.head _))) (by kernel_rfl) (by kernel_rfl) (by kernel_rfl) (by kernel_rfl) (fun _ _ _ h => h) (Or.inl ⟨by rfl, ?_⟩) hHeld ?_
          · (intro u hu; (try dsimp only at hu); go_split_ands; go_simp)
          (try simp only [Act.put, List.setIfInBounds_toArray, List.set_cons_zero, List.set_cons_succ])
          refine L3.late_step 3 (by kernel_rfl) rfl (fun K hK => ?_)
          go_simp
          refine (smallR (n := (i : Int)) (d := 1) (by omega) (by omega) (by decide) (by decide) (by decide)).mono ?_
          rintro e u12 ⟨v, rfl, hs_, c12⟩
          obtain ⟨ns_, s_o, s_l, s_c, s_O, s_L, s_C, rfl⟩ := hs_.seeV
          have rs_ := hs_.nm (L := 1) (sz_int (j := i) (by omega)) (by decide)
          clear hs_
          have B := B.trans (c12.mono B.size)
          clear c12 hHeld
          have hHeld := KEEP _ B
          go_wp2_with fail
          refine hK.out _ _ (L3.AllL.kept hHeld) ?_
          clear hK K
          (try simp only [Act.put, List.setIfInBounds_toArray, List.set_cons_zero, List.set_cons_succ])
          refine L3.late_step 4 (by kernel_rfl) rfl (fun K hK => ?_)
          go_simp
          refine (c_rmul (RCi.out _ (by rw [← HG.out]; exact bw.trans (B.mono (by omega)))) rs_ (by decide)).mono ?_
          rintro e u13 ⟨v, rfl, hj, c13⟩
          obtain ⟨nj, jo, jl, jc, jO, jL, jC, rfl⟩ := hj.seeV
          have rj := hj.nm (L := 40) (szMul SCi.out (sz_int (j := i) (by omega)) |>.mono (by decide)) (by decide)
          clear hj
          have B := B.trans (c13.mono B.size)
          replace rs_ := rs_.below c13
          clear c13 hHeld
          have hHeld := KEEP _ B
          go_wp2_with fail
          refine hK.out _ _ (L3.AllL.kept hHeld) ?_
          clear hK K
          (try simp only [Act.put, List.setIfInBounds_toArray, List.set_cons_zero, List.set_cons_succ])
          refine L3.late_step 6 (by kernel_rfl) rfl (fun K hK => ?_)
          go_simp
          refine (c_rmul rj (rl.below B) (by decide)).mono ?_
          rintro e u14 ⟨v, rfl, hj, c14⟩
          obtain ⟨ng_, g_o, g_l, g_c, g_O, g_L, g_C, rfl⟩ := hj.seeV
          have rg_ := hj.nm (L := 100) (szMul (szMul SCi.out (sz_int (j := i) (by omega))) (SP_.out j (by omega)).1 |>.mono (by decide)) (by decide)
          clear hj
          have B := B.trans (c14.mono B.size)
          replace rs_ := rs_.below c14
          replace rj := rj.below c14
          clear c14 hHeld
          have hHeld := KEEP _ B
          go_wp2_with fail
          refine hK.out _ _ (L3.AllL.kept hHeld) ?_
          clear hK K
          (try simp only [Act.put, List.setIfInBounds_toArray, List.set_cons_zero, List.set_cons_succ])
          refine L3.late_step 7 (by kernel_rfl) rfl (fun K hK => ?_)
          go_simp
          refine (c_radd (rq.below B) rg_ (by decide)).mono ?_
          rintro e u15 ⟨v, rfl, ht, c15⟩
          obtain ⟨nw, wo, wl, wc_, wO, wL, wC, rfl⟩ := ht.seeV
          have hsb : SB c x i + c i * Rat.divInt (i : Int) 1 * sp1 x j = SB c x (i + 1) := by have := HJ.out; subst this; exact (SB_succ c x j).symm
          rw [hsb] at ht
          have rw_ := ht.nm (L := 400) (SV.out (i + 1) (by omega)).2 (by decide)
          clear ht hsb
          have B := B.trans (c15.mono B.size)
          replace rs_ := rs_.below c15
          replace rj := rj.below c15
          replace rg_ := rg_.below c15
          clear c15 hHeld
          have hHeld := KEEP _ B
          go_wp2_with fail
          refine hK.out _ _ (L3.AllL.kept hHeld) ?_
          clear hK K
          (try simp only [Act.put, List.setIfInBounds_toArray, List.set_cons_zero, List.set_cons_succ])
          have hap := HAP.out
          have N_qq : Hid (QCell (((u15.setCell ⟨aq, 0, none⟩ (.bool nw)).setCell ⟨aq, 1, none⟩ (.slice wo wl wc_)).setCell ⟨aq, 2, none⟩ (.slice wO wL wC)) (aq) nw (.slice wo wl wc_) (.slice wO wL wC)) := (qq.below B).write _ _ _
          have N_rq : Hid (RNum (((u15.setCell ⟨aq, 0, none⟩ (.bool nw)).setCell ⟨aq, 1, none⟩ (.slice wo wl wc_)).setCell ⟨aq, 2, none⟩ (.slice wO wL wC)) (.agg #[.bool nw, .slice wo wl wc_, .slice wO wL wC]) (SB c x (i + 1)) 400) := rnum_box rw_ (qq.below B) _ _ _
          have N_qX : Hid (QCell (((u15.setCell ⟨aq, 0, none⟩ (.bool nw)).setCell ⟨aq, 1, none⟩ (.slice wo wl wc_)).setCell ⟨aq, 2, none⟩ (.slice wO wL wC)) (g) nx (.slice xo xl2 xc) (.slice xO xL2 xC)) := (((qX.below B).other (by omega) 0 _).other (by omega) 1 _).other (by omega) 2 _
          have N_qp : Hid (QCell (((u15.setCell ⟨aq, 0, none⟩ (.bool nw)).setCell ⟨aq, 1, none⟩ (.slice wo wl wc_)).setCell ⟨aq, 2, none⟩ (.slice wO wL wC)) (ap) nk (.slice ko kl kc) (.slice kO kL kC)) := (((qp.below B).other (by omega) 0 _).other (by omega) 1 _).other (by omega) 2 _
          have N_rp : Hid (RNum (((u15.setCell ⟨aq, 0, none⟩ (.bool nw)).setCell ⟨aq, 1, none⟩ (.slice wo wl wc_)).setCell ⟨aq, 2, none⟩ (.slice wO wL wC)) (.agg #[.bool nk, .slice ko kl kc, .slice kO kL kC]) (VA c x (i + 1)) 400) := rnum_box (rp.below B) (qq.below B) _ _ _
          have N_qM : Hid (SlC (((u15.setCell ⟨aq, 0, none⟩ (.bool nw)).setCell ⟨aq, 1, none⟩ (.slice wo wl wc_)).setCell ⟨aq, 2, none⟩ (.slice wO wL wC)) (aM) nt (.slice to_ tl tc) (.slice tO tL tC) mt (.slice tp tq tr) (.slice tP tQ tR)) := (((qM.below B).other (by omega) 0 _).other (by omega) 1 _).other (by omega) 2 _
          have N_rm1 : Hid (RNum (((u15.setCell ⟨aq, 0, none⟩ (.bool nw)).setCell ⟨aq, 1, none⟩ (.slice wo wl wc_)).setCell ⟨aq, 2, none⟩ (.slice wO wL wC)) (.agg #[.bool nt, .slice to_ tl tc, .slice tO tL tC]) (VA c x (i + 1)) 400) := rnum_box (rm1.below B) (qq.below B) _ _ _
          have N_rm2 : Hid (RNum (((u15.setCell ⟨aq, 0, none⟩ (.bool nw)).setCell ⟨aq, 1, none⟩ (.slice wo wl wc_)).setCell ⟨aq, 2, none⟩ (.slice wO wL wC)) (.agg #[.bool mt, .slice tp tq tr, .slice tP tQ tR]) (SB c x (i + 1)) 400) := rnum_box (rm2.below B) (qq.below B) _ _ _
          have N_bw : Hid (Below g w (((u15.setCell ⟨aq, 0, none⟩ (.bool nw)).setCell ⟨aq, 1, none⟩ (.slice wo wl wc_)).setCell ⟨aq, 2, none⟩ (.slice wO wL wC))) := ((((bw.trans (B.mono (by omega)))).setCell (p := ⟨aq, 0, none⟩) (by show g ≤ aq; omega) _).setCell (p := ⟨aq, 1, none⟩) (by show g ≤ aq; omega) _).setCell (p := ⟨aq, 2, none⟩) (by show g ≤ aq; omega) _
          have N_zw : Hid (g + 1 ≤ (((u15.setCell ⟨aq, 0, none⟩ (.bool nw)).setCell ⟨aq, 1, none⟩ (.slice wo wl wc_)).setCell ⟨aq, 2, none⟩ (.slice wO wL wC)).heap.size) := by show _ ≤ _; have := B.size; simp [World.setCell]; omega
          obtain ⟨y0, y1, y2⟩ := (qq.below B).cells
          have f0 := (qq.below B).thaw 0
          have f1 := (qq.below B).thaw 1
          have f2 := (qq.below B).thaw 2
          refine L3.late_step 8 (by kernel_rfl) rfl (fun K hK => ?_)
          go_simp
          refine hK.out _ _ ⟨Or.inl ⟨8, by kernel_rfl, by kernel_rfl⟩, Or.inl ⟨8, by kernel_rfl, by kernel_rfl⟩, Or.inl ⟨8, by kernel_rfl, by kernel_rfl⟩, trivial⟩ ?_
          clear hK K
          (try simp only [Act.put, List.setIfInBounds_toArray, List.set_cons_zero, List.set_cons_succ])
          clear y0 y1 y2 f0 f1 f2 hap
          refine L3.late_done (by kernel_rfl) ?_ _
          clear hHeld KEEP
          clear B rs_ rj rg_ rw_ qp rp qX qq rq qM rm1 rm2 qCc rl qt_ bw zw
          obtain ⟨w19, hw19⟩ : ∃ u, u = (((u15.setCell ⟨aq, 0, none⟩ (.bool nw)).setCell ⟨aq, 1, none⟩ (.slice wo wl wc_)).setCell ⟨aq, 2, none⟩ (.slice wO wL wC)) := ⟨_, rfl⟩
          rw [← hw19] at N_qq N_rq N_qX N_qp N_rp N_qM N_rm1 N_rm2 N_bw N_zw ⊢
          clear hw19
          have qq := N_qq.out
          have rq := N_rq.out
          have qX := N_qX.out
          have qp := N_qp.out
          have rp := N_rp.out
          have qM := N_qM.out
          have rm1 := N_rm1.out
          have rm2 := N_rm2.out
          have bw := N_bw.out
          have zw := N_zw.out
          clear N_qq N_rq N_qX N_qp N_rp N_qM N_rm1 N_rm2 N_bw N_zw
          have HN : Hid (QCell w19 (g) nx (.slice xo xl2 xc) (.slice xO xL2 xC) ∧ QCell w19 (ap) nk (.slice ko kl kc) (.slice kO kL kC) ∧ RNum w19 (.agg #[.bool nk, .slice ko kl kc, .slice kO kL kC]) (VA c x (i + 1)) 400 ∧ QCell w19 (aq) nw (.slice wo wl wc_) (.slice wO wL wC) ∧ RNum w19 (.agg #[.bool nw, .slice wo wl wc_, .slice wO wL wC]) (SB c x (i + 1)) 400 ∧ SlC w19 (aM) nt (.slice to_ tl tc) (.slice tO tL tC) mt (.slice tp tq tr) (.slice tP tQ tR) ∧ RNum w19 (.agg #[.bool nt, .slice to_ tl tc, .slice tO tL tC]) (VA c x (i + 1)) 400 ∧ RNum w19 (.agg #[.bool mt, .slice tp tq tr, .slice tP tQ tR]) (SB c x (i + 1)) 400 ∧ Below g w w19 ∧ g + 1 ≤ w19.heap.size) := ⟨qX, qp, rp, qq, rq, qM, rm1, rm2, bw, zw⟩
          clear qq rq qX qp rp qM rm1 rm2 bw zw
          go_wp2_with fail
          go_roundg (m0 - (i + 1))
          case measure => omega
          case rel => exact ⟨i + 1, _, _, _, _, _, _, _, _, _, _, _, _, _, _, _, _, _, _, _, _, _, _, _, _, _, _, _, _, by go_num, by omega, Nat.le_refl _, HN⟩
    · by_cases hq8 : i < n0
      · have hlt1 : (i : Int) < (n0 : Int) := by omega
        have hlt2 : ¬ (i : Int) < 8 := by have := HM0.out; omega
        obtain ⟨s0, s1, s2, s3, s4, s5⟩ := qM.cells
        have CC : Hid _ := (by have h := c_rcmp rm1 rp (by decide); rw [cmp_self] at h; exact h)
        obtain ⟨cp0, cp1, cp2⟩ := qp.cells
        have H_qX : Hid (QCell wr (g) nx (.slice xo xl2 xc) (.slice xO xL2 xC)) := qX
        have H_qp : Hid (QCell wr (ap) np (.slice po pl pc) (.slice pO pL pC)) := qp
        have H_rp : Hid (RNum wr (.agg #[.bool np, .slice po pl pc, .slice pO pL pC]) (VA c x i) 400) := rp
        have H_qq : Hid (QCell wr (aq) nq (.slice qo ql qc) (.slice qO qL qC)) := qq
        have H_rq : Hid (RNum wr (.agg #[.bool nq, .slice qo ql qc, .slice qO qL qC]) (SB c x i) 400) := rq
        have H_qM : Hid (SlC wr (aM) nm (.slice mo ml mc) (.slice mO mL mC) mm (.slice mp mq mr) (.slice mP mQ mR)) := qM
        have H_rm1 : Hid (RNum wr (.agg #[.bool nm, .slice mo ml mc, .slice mO mL mC]) (VA c x i) 400) := rm1
        have H_rm2 : Hid (RNum wr (.agg #[.bool mm, .slice mp mq mr, .slice mP mQ mR]) (SB c x i) 400) := rm2
        have H_bw : Hid (Below g w wr) := bw
        have H_zw : Hid (g + 1 ≤ wr.heap.size) := zw
        clear qX qp rp qq rq qM rm1 rm2 bw zw
        go_wp2_with fail
        refine Calls.mono CC.out ?_
        rintro e x15 ⟨rfl, b15⟩
        clear CC cp0 cp1 cp2
        have qX := H_qX.out
        have qp := H_qp.out
        have rp := H_rp.out
        have qq := H_qq.out
        have rq := H_rq.out
        have qM := H_qM.out
        have rm1 := H_rm1.out
        have rm2 := H_rm2.out
        have bw := H_bw.out
        have zw := H_zw.out
        clear H_qX H_qp H_rp H_qq H_rq H_qM H_rm1 H_rm2 H_bw H_zw
        clear s0 s1 s2 s3 s4 s5
        replace qX := qX.below b15
        replace qp := qp.below b15
        replace rp := rp.below b15
        replace qq := qq.below b15
        replace rq := rq.below b15
        replace qM := qM.below b15
        replace rm1 := rm1.below b15
        replace rm2 := rm2.below b15
        replace bw := bw.trans (b15.mono (by omega))
        replace zw := Nat.le_trans zw b15.size
        clear b15
        obtain ⟨s0, s1, s2, s3, s4, s5⟩ := qM.cells
        have CC : Hid _ := (by have h := c_rcmp rm2 rq (by decide); rw [cmp_self] at h; exact h)
        obtain ⟨cq0, cq1, cq2⟩ := qq.cells
        have H_qX : Hid (QCell x15 (g) nx (.slice xo xl2 xc) (.slice xO xL2 xC)) := qX
        have H_qp : Hid (QCell x15 (ap) np (.slice po pl pc) (.slice pO pL pC)) := qp
        have H_rp : Hid (RNum x15 (.agg #[.bool np, .slice po pl pc, .slice pO pL pC]) (VA c x i) 400) := rp
        have H_qq : Hid (QCell x15 (aq) nq (.slice qo ql qc) (.slice qO qL qC)) := qq
        have H_rq : Hid (RNum x15 (.agg #[.bool nq, .slice qo ql qc, .slice qO qL qC]) (SB c x i) 400) := rq
        have H_qM : Hid (SlC x15 (aM) nm (.slice mo ml mc) (.slice mO mL mC) mm (.slice mp mq mr) (.slice mP mQ mR)) := qM
        have H_rm1 : Hid (RNum x15 (.agg #[.bool nm, .slice mo ml mc, .slice mO mL mC]) (VA c x i) 400) := rm1
        have H_rm2 : Hid (RNum x15 (.agg #[.bool mm, .slice mp mq mr, .slice mP mQ mR]) (SB c x i) 400) := rm2
        have H_bw : Hid (Below g w x15) := bw
        have H_zw : Hid (g + 1 ≤ x15.heap.size) := zw
        clear qX qp rp qq rq qM rm1 rm2 bw zw
        go_wp2_with fail
        refine Calls.mono CC.out ?_
        rintro e x16 ⟨rfl, b16⟩
        clear CC cq0 cq1 cq2
        have qX := H_qX.out
        have qp := H_qp.out
        have rp := H_rp.out
        have qq := H_qq.out
        have rq := H_rq.out
        have qM := H_qM.out
        have rm1 := H_rm1.out
        have rm2 := H_rm2.out
        have bw := H_bw.out
        have zw := H_zw.out
        clear H_qX H_qp H_rp H_qq H_rq H_qM H_rm1 H_rm2 H_bw H_zw
        clear s0 s1 s2 s3 s4 s5
        replace qX := qX.below b16
        replace qp := qp.below b16
        replace rp := rp.below b16
        replace qq := qq.below b16
        replace rq := rq.below b16
        replace qM := qM.below b16
        replace rm1 := rm1.below b16
        replace rm2 := rm2.below b16
        replace bw := bw.trans (b16.mono (by omega))
        replace zw := Nat.le_trans zw b16.size
        clear b16
        have HE : Hid (Below w.heap.size w x16) := by rw [← HG.out]; exact bw
        clear qX qp rp qq rq qM rm1 rm2 bw zw
        go_wp2
        go_ret
        exact ⟨rfl, HE.out⟩
      · have hlt1 : ¬ (i : Int) < (n0 : Int) := by have := HM0.out; omega
        obtain ⟨s0, s1, s2, s3, s4, s5⟩ := qM.cells
        have CC : Hid _ := (by have h := c_rcmp rm1 rp (by decide); rw [cmp_self] at h; exact h)
        obtain ⟨cp0, cp1, cp2⟩ := qp.cells
        have H_qX : Hid (QCell wr (g) nx (.slice xo xl2 xc) (.slice xO xL2 xC)) := qX
        have H_qp : Hid (QCell wr (ap) np (.slice po pl pc) (.slice pO pL pC)) := qp
        have H_rp : Hid (RNum wr (.agg #[.bool np, .slice po pl pc, .slice pO pL pC]) (VA c x i) 400) := rp
        have H_qq : Hid (QCell wr (aq) nq (.slice qo ql qc) (.slice qO qL qC)) := qq
        have H_rq : Hid (RNum wr (.agg #[.bool nq, .slice qo ql qc, .slice qO qL qC]) (SB c x i) 400) := rq
        have H_qM : Hid (SlC wr (aM) nm (.slice mo ml mc) (.slice mO mL mC) mm (.slice mp mq mr) (.slice mP mQ mR)) := qM
        have H_rm1 : Hid (RNum wr (.agg #[.bool nm, .slice mo ml mc, .slice mO mL mC]) (VA c x i) 400) := rm1
        have H_rm2 : Hid (RNum wr (.agg #[.bool mm, .slice mp mq mr, .slice mP mQ mR]) (SB c x i) 400) := rm2
        have H_bw : Hid (Below g w wr) := bw
        have H_zw : Hid (g + 1 ≤ wr.heap.size) := zw
        clear qX qp rp qq rq qM rm1 rm2 bw zw
        go_wp2_with fail
        refine Calls.mono CC.out ?_
        rintro e x17 ⟨rfl, b17⟩
        clear CC cp0 cp1 cp2
        have qX := H_qX.out
        have qp := H_qp.out
        have rp := H_rp.out
        have qq := H_qq.out
        have rq := H_rq.out
        have qM := H_qM.out
        have rm1 := H_rm1.out
        have rm2 := H_rm2.out
        have bw := H_bw.out
        have zw := H_zw.out
        clear H_qX H_qp H_rp H_qq H_rq H_qM H_rm1 H_rm2 H_bw H_zw
        clear s0 s1 s2 s3 s4 s5
        replace qX := qX.below b17
        replace qp := qp.below b17
        replace rp := rp.below b17
        replace qq := qq.below b17
        replace rq := rq.below b17
        replace qM := qM.below b17
        replace rm1 := rm1.below b17
        replace rm2 := rm2.below b17
        replace bw := bw.trans (b17.mono (by omega))
        replace zw := Nat.le_trans zw b17.size
        clear b17
        obtain ⟨s0, s1, s2, s3, s4, s5⟩ := qM.cells
        have CC : Hid _ := (by have h := c_rcmp rm2 rq (by decide); rw [cmp_self] at h; exact h)
        obtain ⟨cq0, cq1, cq2⟩ := qq.cells
        have H_qX : Hid (QCell x17 (g) nx (.slice xo xl2 xc) (.slice xO xL2 xC)) := qX
        have H_qp : Hid (QCell x17 (ap) np (.slice po pl pc) (.slice pO pL pC)) := qp
        have H_rp : Hid (RNum x17 (.agg #[.bool np, .slice po pl pc, .slice pO pL pC]) (VA c x i) 400) := rp
        have H_qq : Hid (QCell x17 (aq) nq (.slice qo ql qc) (.slice qO qL qC)) := qq
        have H_rq : Hid (RNum x17 (.agg #[.bool nq, .slice qo ql qc, .slice qO qL qC]) (SB c x i) 400) := rq
        have H_qM : Hid (SlC x17 (aM) nm (.slice mo ml mc) (.slice mO mL mC) mm (.slice mp mq mr) (.slice mP mQ mR)) := qM
        have H_rm1 : Hid (RNum x17 (.agg #[.bool nm, .slice mo ml mc, .slice mO mL mC]) (VA c x i) 400) := rm1
        have H_rm2 : Hid (RNum x17 (.agg #[.bool mm, .slice mp mq mr, .slice mP mQ mR]) (SB c x i) 400) := rm2
        have H_bw : Hid (Below g w x17) := bw
        have H_zw : Hid (g + 1 ≤ x17.heap.size) := zw
        clear qX qp rp qq rq qM rm1 rm2 bw zw
        go_wp2_with fail
        refine Calls.mono CC.out ?_
        rintro e x18 ⟨rfl, b18⟩
        clear CC cq0 cq1 cq2
        have qX := H_qX.out
        have qp := H_qp.out
        have rp := H_rp.out
        have qq := H_qq.out
        have rq := H_rq.out
        have qM := H_qM.out
        have rm1 := H_rm1.out
        have rm2 := H_rm2.out
        have bw := H_bw.out
        have zw := H_zw.out
        clear H_qX H_qp H_rp H_qq H_rq H_qM H_rm1 H_rm2 H_bw H_zw
        clear s0 s1 s2 s3 s4 s5
        replace qX := qX.below b18
        replace qp := qp.below b18
        replace rp := rp.below b18
        replace qq := qq.below b18
        replace rq := rq.below b18
        replace qM := qM.below b18
        replace rm1 := rm1.below b18
        replace rm2 := rm2.below b18
        replace bw := bw.trans (b18.mono (by omega))
        replace zw := Nat.le_trans zw b18.size
        clear b18
        have HE : Hid (Below w.heap.size w x18) := by rw [← HG.out]; exact bw
        clear qX qp rp qq rq qM rm1 rm2 bw zw
        go_wp2
        go_ret
        exact ⟨rfl, HE.out⟩
end Go.Proofs.YtaafijifiiiblaaGreat
