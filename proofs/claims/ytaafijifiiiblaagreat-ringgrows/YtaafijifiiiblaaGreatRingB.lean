/-
  Proved here: Sum, Product and Power of package ring, by the rings of fractions, through the interface.
-/
import Derived.Test.YtaafijifiiiblaaGreatRingA
import Derived.Deep.LoopGhost
import Derived.Deep.CutRange
namespace Go.Proofs.YtaafijifiiiblaaGreat
open Go.RowKit
/-- What is folded from the left. -/
def fo (op : Rat → Rat → Rat) (z : Rat) (xs : Nat → Rat) : Nat → Rat
  | 0 => z
  | i + 1 => op (fo op z xs i) (xs i)
def adQ (x y : Rat) : Rat := x + y
def muQ (x y : Rat) : Rat := x * y
theorem QCell.ltR {w : World} {g : Nat} {n : Bool} {m d : Value} (h : QCell w g n m d) : g < w.heap.size := (Array.getElem?_eq_some_iff.1 (show w.heap[g]? = _ from h)).1
set_option maxRecDepth 100000 in
set_option maxHeartbeats 6400000 in
theorem sumRats (lo : Option Addr) (b0 n cap : Nat) (xs : Nat → Rat) (L S : Nat) (w : World) (hlo : 0 < n → lo = some ⟨b0, 0, none⟩) (hrow : RRow w b0 n xs L) (hS : ∀ i, i ≤ n → RSz (fo adQ 0 xs i) S) (hB : S + L + 1 ≤ 400000) (hn6 : n ≤ 1000000) : Calls Tryz.prog 58 #[.iface 32 (.agg #[]), .slice lo n cap] w fun e w' => REnd w (fo adQ 0 xs n) e w' := by
  have HS : Hid (∀ i, i ≤ n → RSz (fo adQ 0 xs i) S) := hS
  have HROW : Hid (RRow w b0 n xs L) := hrow
  have HLO : Hid (0 < n → lo = some ⟨b0, 0, none⟩) := hlo
  clear hS hrow hlo
  obtain ⟨r, hr⟩ : ∃ r, r = fo adQ 0 xs n := ⟨_, rfl⟩
  have HR : Hid (r = fo adQ 0 xs n) := hr
  rw [← hr]
  clear hr
  have hm0 := mRatsZero
  have hm1 := mRatsAdd
  have he0 := entRatsZero
  have he1 := entRatsAdd
  obtain ⟨W1, hW1⟩ : ∃ W1, W1 = w.alloc (.cells #[.bool false, .slice none 0 0, .slice none 0 0] 27) := ⟨_, rfl⟩
  have qR : QCell W1 (w.heap.size) false (.slice none 0 0) (.slice none 0 0) := by rw [hW1]; exact (qcell_new _ rfl)
  have bw : Below w.heap.size w W1 := by rw [hW1]; exact belowA w _
  have zw : w.heap.size + 1 ≤ W1.heap.size := by rw [hW1]; simp
  obtain ⟨g, hg⟩ : ∃ g, g = w.heap.size := ⟨_, rfl⟩
  rw [← hg] at qR bw zw
  have HW1 : Hid (W1 = w.alloc (.cells #[.bool false, .slice none 0 0, .slice none 0 0] 27)) := hW1
  have HG : Hid (g = w.heap.size) := hg
  clear hW1 hg
  have H_qR : Hid (QCell W1 (g) false (.slice none 0 0) (.slice none 0 0)) := qR
  have H_bw : Hid (Below g w W1) := bw
  have H_zw : Hid (g + 1 ≤ W1.heap.size) := zw
  clear qR bw zw
  go_enter Tryz.func58, Tryz.ntmps58
  go_upto_region 1 with fail
  rw [← HW1.out, ← HG.out]
  clear HW1
  have qR := H_qR.out
  have bw := H_bw.out
  have zw := H_zw.out
  clear H_qR H_bw H_zw
  have CC : Hid _ := ratsZero W1
  obtain ⟨cR0, cR1, cR2⟩ := qR.cells
  have H_qR : Hid (QCell W1 (g) false (.slice none 0 0) (.slice none 0 0)) := qR
  have H_bw : Hid (Below g w W1) := bw
  have H_zw : Hid (g + 1 ≤ W1.heap.size) := zw
  clear qR bw zw
  go_wp2_with fail
  refine Calls.mono CC.out ?_
  rintro e x1 ⟨v, rfl, hv, b1⟩
  clear CC cR0 cR1 cR2
  have qR := H_qR.out
  have bw := H_bw.out
  have zw := H_zw.out
  clear H_qR H_bw H_zw
  replace hv := hv.rehome (B' := g + 1) zw
  replace qR := qR.below b1
  replace bw := bw.trans (b1.mono (by omega))
  replace zw := Nat.le_trans zw b1.size
  clear b1
  obtain ⟨nm, mo, ml, mc, mO, mL, mC, rfl⟩ := hv.seeV
  replace hv : ROwn (g + 1) x1 (.agg #[.bool nm, .slice mo ml mc, .slice mO mL mC]) (fo adQ 0 xs 0) := hv
  obtain ⟨V2, hV2⟩ : ∃ u, u = x1.alloc (.cells #[.bool nm, .slice mo ml mc, .slice mO mL mC] 27) := ⟨_, rfl⟩
  obtain ⟨aS, haS⟩ : ∃ s, s = x1.heap.size := ⟨_, rfl⟩
  have qS : QCell V2 (aS) nm (.slice mo ml mc) (.slice mO mL mC) := by rw [hV2]; exact qcell_new _ haS.symm
  have bq : Below x1.heap.size x1 V2 := by rw [hV2]; exact belowA _ _
  have lS : g + 1 ≤ aS := by rw [haS]; exact zw
  have HV2 : Hid (V2 = x1.alloc (.cells #[.bool nm, .slice mo ml mc, .slice mO mL mC] 27)) := hV2
  have HaS : Hid (aS = x1.heap.size) := haS
  clear hV2 haS
  replace qR := qR.below bq
  replace hv := hv.below bq
  replace bw := bw.trans (bq.mono (by omega))
  replace zw := Nat.le_trans zw bq.size
  clear bq
  have H_qR : Hid (QCell V2 (g) false (.slice none 0 0) (.slice none 0 0)) := qR
  have H_hv : Hid (ROwn (g + 1) V2 (.agg #[.bool nm, .slice mo ml mc, .slice mO mL mC]) (fo adQ 0 xs 0)) := hv
  have H_qS : Hid (QCell V2 (aS) nm (.slice mo ml mc) (.slice mO mL mC)) := qS
  have H_bw : Hid (Below g w V2) := bw
  have H_zw : Hid (g + 1 ≤ V2.heap.size) := zw
  clear qR hv qS bw zw
  go_upto_region 5 with fail
  rw [← HV2.out, ← HaS.out]
  clear HV2 HaS
  have qR := H_qR.out
  have hv := H_hv.out
  have qS := H_qS.out
  have bw := H_bw.out
  have zw := H_zw.out
  clear H_qR H_hv H_qS H_bw H_zw
  have HLS : Hid (g + 1 ≤ aS) := lS
  clear lS
  have H0 : Hid (QCell V2 aS nm (.slice mo ml mc) (.slice mO mL mC) ∧ QCell V2 g false (.slice none 0 0) (.slice none 0 0) ∧ ROwn (g + 1) V2 (.agg #[.bool nm, .slice mo ml mc, .slice mO mL mC]) (fo adQ 0 xs 0) ∧ Below g w V2 ∧ g + 1 ≤ V2.heap.size) := ⟨qS, qR, hv, bw, zw⟩
  clear qR hv qS bw zw
  go_wp2_with fail
  go_loopg [16] n (fun g1 v16 wr => ∃ (i : Nat) (nm_ : Bool) (mo : Option Addr) (ml mc : Nat) (mO : Option Addr) (mL mC : Nat), v16 = .int .i64 i ∧ i ≤ n ∧ n - i ≤ g1 ∧ Hid (QCell wr aS nm_ (.slice mo ml mc) (.slice mO mL mC) ∧ QCell wr g false (.slice none 0 0) (.slice none 0 0) ∧ ROwn (g + 1) wr (.agg #[.bool nm_, .slice mo ml mc, .slice mO mL mC]) (fo adQ 0 xs i) ∧ Below g w wr ∧ g + 1 ≤ wr.heap.size))
  case atStart => exact ⟨0, _, _, _, _, _, _, _, rfl, Nat.zero_le _, by omega, H0⟩
  case round =>
    clear H0
    obtain ⟨i, nm, mo, ml, mc, mO, mL, mC, rfl, hin, hg1, HB⟩ := hrel
    obtain ⟨qS, qR, hv, bw, zw⟩ := HB.out
    clear HB
    by_cases hlt : i < n
    · have hltz : (i : Int) < (n : Int) := by omega
      obtain rfl := HLO.out (by omega)
      obtain ⟨ne, eo, el, ec, eO, eL, eC, k0, k1, k2, rx⟩ := (HROW.out.below (by rw [← HG.out]; exact bw)) i hlt
      obtain ⟨V3, hV3⟩ : ∃ u, u = wr.alloc (.cells #[.bool ne, .slice eo el ec, .slice eO eL eC] 27) := ⟨_, rfl⟩
      obtain ⟨aE, haE⟩ : ∃ s, s = wr.heap.size := ⟨_, rfl⟩
      have qE : QCell V3 (aE) ne (.slice eo el ec) (.slice eO eL eC) := by rw [hV3]; exact qcell_new _ haE.symm
      have bq : Below wr.heap.size wr V3 := by rw [hV3]; exact belowA _ _
      have HV3 : Hid (V3 = wr.alloc (.cells #[.bool ne, .slice eo el ec, .slice eO eL eC] 27)) := hV3
      have HaE : Hid (aE = wr.heap.size) := haE
      clear hV3 haE
      replace qS := qS.below bq
      replace qR := qR.below bq
      replace hv := hv.below bq
      replace rx := rx.below bq
      replace bw := bw.trans (bq.mono (by omega))
      replace zw := Nat.le_trans zw bq.size
      clear bq
      have H_qS : Hid (QCell V3 (aS) nm (.slice mo ml mc) (.slice mO mL mC)) := qS
      have H_qR : Hid (QCell V3 (g) false (.slice none 0 0) (.slice none 0 0)) := qR
      have H_hv : Hid (ROwn (g + 1) V3 (.agg #[.bool nm, .slice mo ml mc, .slice mO mL mC]) (fo adQ 0 xs i)) := hv
      have H_rx : Hid (RNum V3 (.agg #[.bool ne, .slice eo el ec, .slice eO eL eC]) (xs i) L) := rx
      have H_qE : Hid (QCell V3 (aE) ne (.slice eo el ec) (.slice eO eL eC)) := qE
      have H_bw : Hid (Below g w V3) := bw
      have H_zw : Hid (g + 1 ≤ V3.heap.size) := zw
      clear qS qR hv rx qE bw zw
      go_upto_region 8 with fail
      rw [← HV3.out, ← HaE.out]
      clear HV3 HaE k0 k1 k2
      have qS := H_qS.out
      have qR := H_qR.out
      have hv := H_hv.out
      have rx := H_rx.out
      have qE := H_qE.out
      have bw := H_bw.out
      have zw := H_zw.out
      clear H_qS H_qR H_hv H_rx H_qE H_bw H_zw
      have hbw0 := zw
      have HLT : aS < V3.heap.size := qS.ltR
      have HGE : g + 1 ≤ V3.heap.size := zw
      have CC : Hid _ := ratsAdd (hv.nm (HS.out i hin) (by omega)) rx (by omega)
      obtain ⟨cS0, cS1, cS2⟩ := qS.cells
      obtain ⟨cE0, cE1, cE2⟩ := qE.cells
      have H_qS : Hid (QCell V3 (aS) nm (.slice mo ml mc) (.slice mO mL mC)) := qS
      have H_qR : Hid (QCell V3 (g) false (.slice none 0 0) (.slice none 0 0)) := qR
      have H_hv : Hid (ROwn (g + 1) V3 (.agg #[.bool nm, .slice mo ml mc, .slice mO mL mC]) (fo adQ 0 xs i)) := hv
      have H_rx : Hid (RNum V3 (.agg #[.bool ne, .slice eo el ec, .slice eO eL eC]) (xs i) L) := rx
      have H_qE : Hid (QCell V3 (aE) ne (.slice eo el ec) (.slice eO eL eC)) := qE
      have H_bw : Hid (Below g w V3) := bw
      have H_zw : Hid (g + 1 ≤ V3.heap.size) := zw
      clear qS qR hv rx qE bw zw
      go_wp2_with fail
      refine Calls.mono CC.out ?_
      rintro e x4 ⟨v2, rfl, hn, b4⟩
      clear CC cS0 cS1 cS2 cE0 cE1 cE2
      have qS := H_qS.out
      have qR := H_qR.out
      have hv := H_hv.out
      have rx := H_rx.out
      have qE := H_qE.out
      have bw := H_bw.out
      have zw := H_zw.out
      clear H_qS H_qR H_hv H_rx H_qE H_bw H_zw
      replace qS := qS.below b4
      replace qR := qR.below b4
      replace hv := hv.below b4
      replace rx := rx.below b4
      replace qE := qE.below b4
      replace bw := bw.trans (b4.mono (by omega))
      replace zw := Nat.le_trans zw b4.size
      clear b4
      clear hbw0
      obtain ⟨nu, uo, ul, uc, uO, uL, uC, rfl⟩ := hn.seeV
      have hls := HLS.out
      obtain ⟨m9, d9, e9, hm9, hd9, hap9⟩ := hn
      simp only [Value.agg.injEq, Array.mk.injEq, List.cons.injEq, Value.bool.injEq, and_true] at e9
      obtain ⟨hb9, rfl, rfl⟩ := e9
      have HN : Hid (QCell (((x4.setCell ⟨aS, 0, none⟩ (.bool nu)).setCell ⟨aS, 1, none⟩ (.slice uo ul uc)).setCell ⟨aS, 2, none⟩ (.slice uO uL uC)) aS nu (.slice uo ul uc) (.slice uO uL uC) ∧ QCell (((x4.setCell ⟨aS, 0, none⟩ (.bool nu)).setCell ⟨aS, 1, none⟩ (.slice uo ul uc)).setCell ⟨aS, 2, none⟩ (.slice uO uL uC)) g false (.slice none 0 0) (.slice none 0 0) ∧ ROwn (g + 1) (((x4.setCell ⟨aS, 0, none⟩ (.bool nu)).setCell ⟨aS, 1, none⟩ (.slice uo ul uc)).setCell ⟨aS, 2, none⟩ (.slice uO uL uC)) (.agg #[.bool nu, .slice uo ul uc, .slice uO uL uC]) (fo adQ 0 xs (i + 1)) ∧ Below g w (((x4.setCell ⟨aS, 0, none⟩ (.bool nu)).setCell ⟨aS, 1, none⟩ (.slice uo ul uc)).setCell ⟨aS, 2, none⟩ (.slice uO uL uC)) ∧ g + 1 ≤ (((x4.setCell ⟨aS, 0, none⟩ (.bool nu)).setCell ⟨aS, 1, none⟩ (.slice uo ul uc)).setCell ⟨aS, 2, none⟩ (.slice uO uL uC)).heap.size) := ⟨qS.write _ _ _, ((qR.other (by omega) _ _).other (by omega) _ _).other (by omega) _ _, rown_store hb9 hm9 hd9 hap9 HLT HGE, ((bw.setCell (p := ⟨aS, 0, none⟩) (by show g ≤ aS; omega) _).setCell (p := ⟨aS, 1, none⟩) (by show g ≤ aS; omega) _).setCell (p := ⟨aS, 2, none⟩) (by show g ≤ aS; omega) _, by simpa [World.setCell] using zw⟩
      obtain ⟨cS0, cS1, cS2⟩ := qS.cells
      have f0 := qS.thaw 0
      have f1 := qS.thaw 1
      have f2 := qS.thaw 2
      clear hm9 hd9 hap9 hb9 hls HLT HGE qS qR hv rx qE bw zw
      go_wp2_with fail
      go_roundg (n - (i + 1))
      case measure => omega
      case rel => exact ⟨i + 1, _, _, _, _, _, _, _, by go_num, by omega, Nat.le_refl _, HN⟩
    · have hltz : ¬ (i : Int) < (n : Int) := by omega
      have hie : i = n := by omega
      subst hie
      rw [← HR.out] at hv
      have HE : Hid (REnd w (r) (.returned (.agg #[.bool nm, .slice mo ml mc, .slice mO mL mC])) (((wr.setCell ⟨g, 0, none⟩ (.bool nm)).setCell ⟨g, 1, none⟩ (.slice mo ml mc)).setCell ⟨g, 2, none⟩ (.slice mO mL mC))) := ROwn.doneR hv (by rw [← HG.out]; omega) (by omega) (by rw [← HG.out]; exact bw)
      have HW : Hid (QCell (((wr.setCell ⟨g, 0, none⟩ (.bool nm)).setCell ⟨g, 1, none⟩ (.slice mo ml mc)).setCell ⟨g, 2, none⟩ (.slice mO mL mC)) (g) nm (.slice mo ml mc) (.slice mO mL mC)) := qR.write _ _ _
      obtain ⟨cR0, cR1, cR2⟩ := qR.cells
      obtain ⟨cS0, cS1, cS2⟩ := qS.cells
      have f0 := qR.thaw 0
      have f1 := qR.thaw 1
      have f2 := qR.thaw 2
      clear qS qR hv bw zw
      go_wp2_with fail
      (try simp only [Exit.inBlock, Exit.then])
      exact bodyPost_ret (results_cell_row rfl _ _ (g) 27 _ (0, 0) _ rfl HW.out Tryz.underlying27 rfl (by kernel_rfl)) rfl HE.out
set_option maxRecDepth 100000 in
set_option maxHeartbeats 6400000 in
theorem sumMost (lo : Option Addr) (b0 n cap : Nat) (xs : Nat → Rat) (L S : Nat) (w : World) (hlo : 0 < n → lo = some ⟨b0, 0, none⟩) (hrow : RRow w b0 n xs L) (hS : ∀ i, i ≤ n → RSz (fo mxQ 0 xs i) S) (hB : S + L + 1 ≤ 400000) (hn6 : n ≤ 1000000) : Calls Tryz.prog 58 #[.iface 33 (.agg #[]), .slice lo n cap] w fun e w' => REnd w (fo mxQ 0 xs n) e w' := by
  have HS : Hid (∀ i, i ≤ n → RSz (fo mxQ 0 xs i) S) := hS
  have HROW : Hid (RRow w b0 n xs L) := hrow
  have HLO : Hid (0 < n → lo = some ⟨b0, 0, none⟩) := hlo
  clear hS hrow hlo
  obtain ⟨r, hr⟩ : ∃ r, r = fo mxQ 0 xs n := ⟨_, rfl⟩
  have HR : Hid (r = fo mxQ 0 xs n) := hr
  rw [← hr]
  clear hr
  have hm0 := mMostZero
  have hm1 := mMostAdd
  have he0 := entMostZero
  have he1 := entMostAdd
  obtain ⟨W1, hW1⟩ : ∃ W1, W1 = w.alloc (.cells #[.bool false, .slice none 0 0, .slice none 0 0] 27) := ⟨_, rfl⟩
  have qR : QCell W1 (w.heap.size) false (.slice none 0 0) (.slice none 0 0) := by rw [hW1]; exact (qcell_new _ rfl)
  have bw : Below w.heap.size w W1 := by rw [hW1]; exact belowA w _
  have zw : w.heap.size + 1 ≤ W1.heap.size := by rw [hW1]; simp
  obtain ⟨g, hg⟩ : ∃ g, g = w.heap.size := ⟨_, rfl⟩
  rw [← hg] at qR bw zw
  have HW1 : Hid (W1 = w.alloc (.cells #[.bool false, .slice none 0 0, .slice none 0 0] 27)) := hW1
  have HG : Hid (g = w.heap.size) := hg
  clear hW1 hg
  have H_qR : Hid (QCell W1 (g) false (.slice none 0 0) (.slice none 0 0)) := qR
  have H_bw : Hid (Below g w W1) := bw
  have H_zw : Hid (g + 1 ≤ W1.heap.size) := zw
  clear qR bw zw
  go_enter Tryz.func58, Tryz.ntmps58
  go_upto_region 1 with fail
  rw [← HW1.out, ← HG.out]
  clear HW1
  have qR := H_qR.out
  have bw := H_bw.out
  have zw := H_zw.out
  clear H_qR H_bw H_zw
  have CC : Hid _ := mostZero W1
  obtain ⟨cR0, cR1, cR2⟩ := qR.cells
  have H_qR : Hid (QCell W1 (g) false (.slice none 0 0) (.slice none 0 0)) := qR
  have H_bw : Hid (Below g w W1) := bw
  have H_zw : Hid (g + 1 ≤ W1.heap.size) := zw
  clear qR bw zw
  go_wp2_with fail
  refine Calls.mono CC.out ?_
  rintro e x1 ⟨v, rfl, hv, b1⟩
  clear CC cR0 cR1 cR2
  have qR := H_qR.out
  have bw := H_bw.out
  have zw := H_zw.out
  clear H_qR H_bw H_zw
  replace hv := hv.rehome (B' := g + 1) zw
  replace qR := qR.below b1
  replace bw := bw.trans (b1.mono (by omega))
  replace zw := Nat.le_trans zw b1.size
  clear b1
  obtain ⟨nm, mo, ml, mc, mO, mL, mC, rfl⟩ := hv.seeV
  replace hv : ROwn (g + 1) x1 (.agg #[.bool nm, .slice mo ml mc, .slice mO mL mC]) (fo mxQ 0 xs 0) := hv
  obtain ⟨V2, hV2⟩ : ∃ u, u = x1.alloc (.cells #[.bool nm, .slice mo ml mc, .slice mO mL mC] 27) := ⟨_, rfl⟩
  obtain ⟨aS, haS⟩ : ∃ s, s = x1.heap.size := ⟨_, rfl⟩
  have qS : QCell V2 (aS) nm (.slice mo ml mc) (.slice mO mL mC) := by rw [hV2]; exact qcell_new _ haS.symm
  have bq : Below x1.heap.size x1 V2 := by rw [hV2]; exact belowA _ _
  have lS : g + 1 ≤ aS := by rw [haS]; exact zw
  have HV2 : Hid (V2 = x1.alloc (.cells #[.bool nm, .slice mo ml mc, .slice mO mL mC] 27)) := hV2
  have HaS : Hid (aS = x1.heap.size) := haS
  clear hV2 haS
  replace qR := qR.below bq
  replace hv := hv.below bq
  replace bw := bw.trans (bq.mono (by omega))
  replace zw := Nat.le_trans zw bq.size
  clear bq
  have H_qR : Hid (QCell V2 (g) false (.slice none 0 0) (.slice none 0 0)) := qR
  have H_hv : Hid (ROwn (g + 1) V2 (.agg #[.bool nm, .slice mo ml mc, .slice mO mL mC]) (fo mxQ 0 xs 0)) := hv
  have H_qS : Hid (QCell V2 (aS) nm (.slice mo ml mc) (.slice mO mL mC)) := qS
  have H_bw : Hid (Below g w V2) := bw
  have H_zw : Hid (g + 1 ≤ V2.heap.size) := zw
  clear qR hv qS bw zw
  go_upto_region 5 with fail
  rw [← HV2.out, ← HaS.out]
  clear HV2 HaS
  have qR := H_qR.out
  have hv := H_hv.out
  have qS := H_qS.out
  have bw := H_bw.out
  have zw := H_zw.out
  clear H_qR H_hv H_qS H_bw H_zw
  have HLS : Hid (g + 1 ≤ aS) := lS
  clear lS
  have H0 : Hid (QCell V2 aS nm (.slice mo ml mc) (.slice mO mL mC) ∧ QCell V2 g false (.slice none 0 0) (.slice none 0 0) ∧ ROwn (g + 1) V2 (.agg #[.bool nm, .slice mo ml mc, .slice mO mL mC]) (fo mxQ 0 xs 0) ∧ Below g w V2 ∧ g + 1 ≤ V2.heap.size) := ⟨qS, qR, hv, bw, zw⟩
  clear qR hv qS bw zw
  go_wp2_with fail
  go_loopg [16] n (fun g1 v16 wr => ∃ (i : Nat) (nm_ : Bool) (mo : Option Addr) (ml mc : Nat) (mO : Option Addr) (mL mC : Nat), v16 = .int .i64 i ∧ i ≤ n ∧ n - i ≤ g1 ∧ Hid (QCell wr aS nm_ (.slice mo ml mc) (.slice mO mL mC) ∧ QCell wr g false (.slice none 0 0) (.slice none 0 0) ∧ ROwn (g + 1) wr (.agg #[.bool nm_, .slice mo ml mc, .slice mO mL mC]) (fo mxQ 0 xs i) ∧ Below g w wr ∧ g + 1 ≤ wr.heap.size))
  case atStart => exact ⟨0, _, _, _, _, _, _, _, rfl, Nat.zero_le _, by omega, H0⟩
  case round =>
    clear H0
    obtain ⟨i, nm, mo, ml, mc, mO, mL, mC, rfl, hin, hg1, HB⟩ := hrel
    obtain ⟨qS, qR, hv, bw, zw⟩ := HB.out
    clear HB
    by_cases hlt : i < n
    · have hltz : (i : Int) < (n : Int) := by omega
      obtain rfl := HLO.out (by omega)
      obtain ⟨ne, eo, el, ec, eO, eL, eC, k0, k1, k2, rx⟩ := (HROW.out.below (by rw [← HG.out]; exact bw)) i hlt
      obtain ⟨V3, hV3⟩ : ∃ u, u = wr.alloc (.cells #[.bool ne, .slice eo el ec, .slice eO eL eC] 27) := ⟨_, rfl⟩
      obtain ⟨aE, haE⟩ : ∃ s, s = wr.heap.size := ⟨_, rfl⟩
      have qE : QCell V3 (aE) ne (.slice eo el ec) (.slice eO eL eC) := by rw [hV3]; exact qcell_new _ haE.symm
      have bq : Below wr.heap.size wr V3 := by rw [hV3]; exact belowA _ _
      have HV3 : Hid (V3 = wr.alloc (.cells #[.bool ne, .slice eo el ec, .slice eO eL eC] 27)) := hV3
      have HaE : Hid (aE = wr.heap.size) := haE
      clear hV3 haE
      replace qS := qS.below bq
      replace qR := qR.below bq
      replace hv := hv.below bq
      replace rx := rx.below bq
      replace bw := bw.trans (bq.mono (by omega))
      replace zw := Nat.le_trans zw bq.size
      clear bq
      have H_qS : Hid (QCell V3 (aS) nm (.slice mo ml mc) (.slice mO mL mC)) := qS
      have H_qR : Hid (QCell V3 (g) false (.slice none 0 0) (.slice none 0 0)) := qR
      have H_hv : Hid (ROwn (g + 1) V3 (.agg #[.bool nm, .slice mo ml mc, .slice mO mL mC]) (fo mxQ 0 xs i)) := hv
      have H_rx : Hid (RNum V3 (.agg #[.bool ne, .slice eo el ec, .slice eO eL eC]) (xs i) L) := rx
      have H_qE : Hid (QCell V3 (aE) ne (.slice eo el ec) (.slice eO eL eC)) := qE
      have H_bw : Hid (Below g w V3) := bw
      have H_zw : Hid (g + 1 ≤ V3.heap.size) := zw
      clear qS qR hv rx qE bw zw
      go_upto_region 8 with fail
      rw [← HV3.out, ← HaE.out]
      clear HV3 HaE k0 k1 k2
      have qS := H_qS.out
      have qR := H_qR.out
      have hv := H_hv.out
      have rx := H_rx.out
      have qE := H_qE.out
      have bw := H_bw.out
      have zw := H_zw.out
      clear H_qS H_qR H_hv H_rx H_qE H_bw H_zw
      have hbw0 := zw
      have HLT : aS < V3.heap.size := qS.ltR
      have HGE : g + 1 ≤ V3.heap.size := zw
      have CC : Hid _ := mostAdd (hv.nm (HS.out i hin) (by omega)) rx (by omega) (by omega) (by omega)
      obtain ⟨cS0, cS1, cS2⟩ := qS.cells
      obtain ⟨cE0, cE1, cE2⟩ := qE.cells
      have H_qS : Hid (QCell V3 (aS) nm (.slice mo ml mc) (.slice mO mL mC)) := qS
      have H_qR : Hid (QCell V3 (g) false (.slice none 0 0) (.slice none 0 0)) := qR
      have H_hv : Hid (ROwn (g + 1) V3 (.agg #[.bool nm, .slice mo ml mc, .slice mO mL mC]) (fo mxQ 0 xs i)) := hv
      have H_rx : Hid (RNum V3 (.agg #[.bool ne, .slice eo el ec, .slice eO eL eC]) (xs i) L) := rx
      have H_qE : Hid (QCell V3 (aE) ne (.slice eo el ec) (.slice eO eL eC)) := qE
      have H_bw : Hid (Below g w V3) := bw
      have H_zw : Hid (g + 1 ≤ V3.heap.size) := zw
      clear qS qR hv rx qE bw zw
      go_wp2_with fail
      refine Calls.mono CC.out ?_
      rintro e x4 ⟨v2, rfl, hn, b4⟩
      clear CC cS0 cS1 cS2 cE0 cE1 cE2
      have qS := H_qS.out
      have qR := H_qR.out
      have hv := H_hv.out
      have rx := H_rx.out
      have qE := H_qE.out
      have bw := H_bw.out
      have zw := H_zw.out
      clear H_qS H_qR H_hv H_rx H_qE H_bw H_zw
      replace qS := qS.below b4
      replace qR := qR.below b4
      replace hv := hv.below b4
      replace rx := rx.below b4
      replace qE := qE.below b4
      replace bw := bw.trans (b4.mono (by omega))
      replace zw := Nat.le_trans zw b4.size
      clear b4
      clear hbw0
      obtain ⟨nu, uo, ul, uc, uO, uL, uC, rfl⟩ := hn.seeV
      have hls := HLS.out
      obtain ⟨m9, d9, e9, hm9, hd9, hap9⟩ := hn
      simp only [Value.agg.injEq, Array.mk.injEq, List.cons.injEq, Value.bool.injEq, and_true] at e9
      obtain ⟨hb9, rfl, rfl⟩ := e9
      have HN : Hid (QCell (((x4.setCell ⟨aS, 0, none⟩ (.bool nu)).setCell ⟨aS, 1, none⟩ (.slice uo ul uc)).setCell ⟨aS, 2, none⟩ (.slice uO uL uC)) aS nu (.slice uo ul uc) (.slice uO uL uC) ∧ QCell (((x4.setCell ⟨aS, 0, none⟩ (.bool nu)).setCell ⟨aS, 1, none⟩ (.slice uo ul uc)).setCell ⟨aS, 2, none⟩ (.slice uO uL uC)) g false (.slice none 0 0) (.slice none 0 0) ∧ ROwn (g + 1) (((x4.setCell ⟨aS, 0, none⟩ (.bool nu)).setCell ⟨aS, 1, none⟩ (.slice uo ul uc)).setCell ⟨aS, 2, none⟩ (.slice uO uL uC)) (.agg #[.bool nu, .slice uo ul uc, .slice uO uL uC]) (fo mxQ 0 xs (i + 1)) ∧ Below g w (((x4.setCell ⟨aS, 0, none⟩ (.bool nu)).setCell ⟨aS, 1, none⟩ (.slice uo ul uc)).setCell ⟨aS, 2, none⟩ (.slice uO uL uC)) ∧ g + 1 ≤ (((x4.setCell ⟨aS, 0, none⟩ (.bool nu)).setCell ⟨aS, 1, none⟩ (.slice uo ul uc)).setCell ⟨aS, 2, none⟩ (.slice uO uL uC)).heap.size) := ⟨qS.write _ _ _, ((qR.other (by omega) _ _).other (by omega) _ _).other (by omega) _ _, rown_store hb9 hm9 hd9 hap9 HLT HGE, ((bw.setCell (p := ⟨aS, 0, none⟩) (by show g ≤ aS; omega) _).setCell (p := ⟨aS, 1, none⟩) (by show g ≤ aS; omega) _).setCell (p := ⟨aS, 2, none⟩) (by show g ≤ aS; omega) _, by simpa [World.setCell] using zw⟩
      obtain ⟨cS0, cS1, cS2⟩ := qS.cells
      have f0 := qS.thaw 0
      have f1 := qS.thaw 1
      have f2 := qS.thaw 2
      clear hm9 hd9 hap9 hb9 hls HLT HGE qS qR hv rx qE bw zw
      go_wp2_with fail
      go_roundg (n - (i + 1))
      case measure => omega
      case rel => exact ⟨i + 1, _, _, _, _, _, _, _, by go_num, by omega, Nat.le_refl _, HN⟩
    · have hltz : ¬ (i : Int) < (n : Int) := by omega
      have hie : i = n := by omega
      subst hie
      rw [← HR.out] at hv
      have HE : Hid (REnd w (r) (.returned (.agg #[.bool nm, .slice mo ml mc, .slice mO mL mC])) (((wr.setCell ⟨g, 0, none⟩ (.bool nm)).setCell ⟨g, 1, none⟩ (.slice mo ml mc)).setCell ⟨g, 2, none⟩ (.slice mO mL mC))) := ROwn.doneR hv (by rw [← HG.out]; omega) (by omega) (by rw [← HG.out]; exact bw)
      have HW : Hid (QCell (((wr.setCell ⟨g, 0, none⟩ (.bool nm)).setCell ⟨g, 1, none⟩ (.slice mo ml mc)).setCell ⟨g, 2, none⟩ (.slice mO mL mC)) (g) nm (.slice mo ml mc) (.slice mO mL mC)) := qR.write _ _ _
      obtain ⟨cR0, cR1, cR2⟩ := qR.cells
      obtain ⟨cS0, cS1, cS2⟩ := qS.cells
      have f0 := qR.thaw 0
      have f1 := qR.thaw 1
      have f2 := qR.thaw 2
      clear qS qR hv bw zw
      go_wp2_with fail
      (try simp only [Exit.inBlock, Exit.then])
      exact bodyPost_ret (results_cell_row rfl _ _ (g) 27 _ (0, 0) _ rfl HW.out Tryz.underlying27 rfl (by kernel_rfl)) rfl HE.out
set_option maxRecDepth 100000 in
set_option maxHeartbeats 6400000 in
theorem powRats {a : Value} {x : Rat} (n L S : Nat) (w : World) (ha : RNum w a x L) (hS : ∀ i, i ≤ n → RSz (fo muQ 1 (fun _ => x) i) S) (hB : S + L + 1 ≤ 400000) (hn6 : n ≤ 1024) : Calls Tryz.prog 60 #[.iface 32 (.agg #[]), a, .int .i64 n] w fun e w' => RTEnd w (fo muQ 1 (fun _ => x) n) e w' := by
  have HS : Hid (∀ i, i ≤ n → RSz (fo muQ 1 (fun _ => x) i) S) := hS
  clear hS
  obtain ⟨r, hr⟩ : ∃ r, r = fo muQ 1 (fun _ => x) n := ⟨_, rfl⟩
  have HR : Hid (r = fo muQ 1 (fun _ => x) n) := hr
  rw [← hr]
  clear hr
  have hm0 := mRatsOne
  have hm1 := mRatsMul
  have he0 := entRatsOne
  have he1 := entRatsMul
  obtain ⟨na, ao, al, ac, aO, aL, aC, rfl⟩ := ha.seeV
  have hn0 : ¬ (n : Int) < 0 := by omega
  have hn1 : ¬ (n : Int) > 1024 := by omega
  obtain ⟨W1, hW1⟩ : ∃ W1, W1 = (w.alloc (.cells #[.bool na, .slice ao al ac, .slice aO aL aC] 27)).alloc (.cells #[.bool false, .slice none 0 0, .slice none 0 0] 27) := ⟨_, rfl⟩
  have qA : QCell W1 (w.heap.size) na (.slice ao al ac) (.slice aO aL aC) := by rw [hW1]; exact (qcell_step (qcell_new _ rfl))
  have qR : QCell W1 (w.heap.size + 1) false (.slice none 0 0) (.slice none 0 0) := by rw [hW1]; exact (qcell_new _ (by simp))
  have bw : Below w.heap.size w W1 := by rw [hW1]; exact bstep (belowA w _) (belowA _ _)
  have zw : w.heap.size + 1 + 1 ≤ W1.heap.size := by rw [hW1]; simp
  replace ha := ha.below bw
  obtain ⟨g, hg⟩ : ∃ g, g = w.heap.size := ⟨_, rfl⟩
  rw [← hg] at qA qR bw zw
  have HW1 : Hid (W1 = (w.alloc (.cells #[.bool na, .slice ao al ac, .slice aO aL aC] 27)).alloc (.cells #[.bool false, .slice none 0 0, .slice none 0 0] 27)) := hW1
  have HG : Hid (g = w.heap.size) := hg
  clear hW1 hg
  have H_ha : Hid (RNum W1 (.agg #[.bool na, .slice ao al ac, .slice aO aL aC]) x L) := ha
  have H_qA : Hid (QCell W1 (g) na (.slice ao al ac) (.slice aO aL aC)) := qA
  have H_qR : Hid (QCell W1 (g + 1) false (.slice none 0 0) (.slice none 0 0)) := qR
  have H_bw : Hid (Below g w W1) := bw
  have H_zw : Hid (g + 1 + 1 ≤ W1.heap.size) := zw
  clear ha qA qR bw zw
  go_enter Tryz.func60, Tryz.ntmps60
  go_upto_region 1 with fail
  rw [← HW1.out, ← HG.out]
  clear HW1
  have ha := H_ha.out
  have qA := H_qA.out
  have qR := H_qR.out
  have bw := H_bw.out
  have zw := H_zw.out
  clear H_ha H_qA H_qR H_bw H_zw
  obtain ⟨V1, hV1⟩ : ∃ u, u = W1.alloc (.cells #[.bool false, .slice none 0 0, .slice none 0 0] 27) := ⟨_, rfl⟩
  obtain ⟨aN, haN⟩ : ∃ s, s = W1.heap.size := ⟨_, rfl⟩
  have qN : QCell V1 (aN) false (.slice none 0 0) (.slice none 0 0) := by rw [hV1]; exact qcell_new _ haN.symm
  have bq : Below W1.heap.size W1 V1 := by rw [hV1]; exact belowA _ _
  have HV1 : Hid (V1 = W1.alloc (.cells #[.bool false, .slice none 0 0, .slice none 0 0] 27)) := hV1
  have HaN : Hid (aN = W1.heap.size) := haN
  clear hV1 haN
  replace ha := ha.below bq
  replace qA := qA.below bq
  replace qR := qR.below bq
  replace bw := bw.trans (bq.mono (by omega))
  replace zw := Nat.le_trans zw bq.size
  clear bq
  have H_ha : Hid (RNum V1 (.agg #[.bool na, .slice ao al ac, .slice aO aL aC]) x L) := ha
  have H_qA : Hid (QCell V1 (g) na (.slice ao al ac) (.slice aO aL aC)) := qA
  have H_qR : Hid (QCell V1 (g + 1) false (.slice none 0 0) (.slice none 0 0)) := qR
  have H_qN : Hid (QCell V1 (aN) false (.slice none 0 0) (.slice none 0 0)) := qN
  have H_bw : Hid (Below g w V1) := bw
  have H_zw : Hid (g + 1 + 1 ≤ V1.heap.size) := zw
  clear ha qA qR qN bw zw
  go_upto_region 2 with fail
  rw [← HV1.out, ← HaN.out]
  clear HV1 HaN 
  have ha := H_ha.out
  have qA := H_qA.out
  have qR := H_qR.out
  have qN := H_qN.out
  have bw := H_bw.out
  have zw := H_zw.out
  clear H_ha H_qA H_qR H_qN H_bw H_zw
  have CC : Hid _ := ratsOne V1
  obtain ⟨cR0, cR1, cR2⟩ := qR.cells
  have H_ha : Hid (RNum V1 (.agg #[.bool na, .slice ao al ac, .slice aO aL aC]) x L) := ha
  have H_qA : Hid (QCell V1 (g) na (.slice ao al ac) (.slice aO aL aC)) := qA
  have H_qR : Hid (QCell V1 (g + 1) false (.slice none 0 0) (.slice none 0 0)) := qR
  have H_qN : Hid (QCell V1 (aN) false (.slice none 0 0) (.slice none 0 0)) := qN
  have H_bw : Hid (Below g w V1) := bw
  have H_zw : Hid (g + 1 + 1 ≤ V1.heap.size) := zw
  clear ha qA qR qN bw zw
  go_wp2_with fail
  refine Calls.mono CC.out ?_
  rintro e x2 ⟨v, rfl, hv, b2⟩
  clear CC cR0 cR1 cR2
  have ha := H_ha.out
  have qA := H_qA.out
  have qR := H_qR.out
  have qN := H_qN.out
  have bw := H_bw.out
  have zw := H_zw.out
  clear H_ha H_qA H_qR H_qN H_bw H_zw
  replace hv := hv.rehome (B' := g + 1 + 1) zw
  replace ha := ha.below b2
  replace qA := qA.below b2
  replace qR := qR.below b2
  replace qN := qN.below b2
  replace bw := bw.trans (b2.mono (by omega))
  replace zw := Nat.le_trans zw b2.size
  clear b2
  obtain ⟨nm, mo, ml, mc, mO, mL, mC, rfl⟩ := hv.seeV
  replace hv : ROwn (g + 1 + 1) x2 (.agg #[.bool nm, .slice mo ml mc, .slice mO mL mC]) (fo muQ 1 (fun _ => x) 0) := hv
  clear qN
  obtain ⟨V3, hV3⟩ : ∃ u, u = x2.alloc (.cells #[.bool nm, .slice mo ml mc, .slice mO mL mC] 27) := ⟨_, rfl⟩
  obtain ⟨aS, haS⟩ : ∃ s, s = x2.heap.size := ⟨_, rfl⟩
  have qS : QCell V3 (aS) nm (.slice mo ml mc) (.slice mO mL mC) := by rw [hV3]; exact qcell_new _ haS.symm
  have bq : Below x2.heap.size x2 V3 := by rw [hV3]; exact belowA _ _
  have lS : g + 1 + 1 ≤ aS := by rw [haS]; exact zw
  have HV3 : Hid (V3 = x2.alloc (.cells #[.bool nm, .slice mo ml mc, .slice mO mL mC] 27)) := hV3
  have HaS : Hid (aS = x2.heap.size) := haS
  clear hV3 haS
  replace ha := ha.below bq
  replace qA := qA.below bq
  replace qR := qR.below bq
  replace hv := hv.below bq
  replace bw := bw.trans (bq.mono (by omega))
  replace zw := Nat.le_trans zw bq.size
  clear bq
  have H_ha : Hid (RNum V3 (.agg #[.bool na, .slice ao al ac, .slice aO aL aC]) x L) := ha
  have H_qA : Hid (QCell V3 (g) na (.slice ao al ac) (.slice aO aL aC)) := qA
  have H_qR : Hid (QCell V3 (g + 1) false (.slice none 0 0) (.slice none 0 0)) := qR
  have H_hv : Hid (ROwn (g + 1 + 1) V3 (.agg #[.bool nm, .slice mo ml mc, .slice mO mL mC]) (fo muQ 1 (fun _ => x) 0)) := hv
  have H_qS : Hid (QCell V3 (aS) nm (.slice mo ml mc) (.slice mO mL mC)) := qS
  have H_bw : Hid (Below g w V3) := bw
  have H_zw : Hid (g + 1 + 1 ≤ V3.heap.size) := zw
  clear ha qA qR hv qS bw zw
  go_upto_region 7 with fail
  rw [← HV3.out, ← HaS.out]
  clear HV3 HaS
  have ha := H_ha.out
  have qA := H_qA.out
  have qR := H_qR.out
  have hv := H_hv.out
  have qS := H_qS.out
  have bw := H_bw.out
  have zw := H_zw.out
  clear H_ha H_qA H_qR H_hv H_qS H_bw H_zw
  have HLS : Hid (g + 1 + 1 ≤ aS) := lS
  clear lS
  have H0 : Hid (QCell V3 aS nm (.slice mo ml mc) (.slice mO mL mC) ∧ QCell V3 (g + 1) false (.slice none 0 0) (.slice none 0 0) ∧ QCell V3 (g) na (.slice ao al ac) (.slice aO aL aC) ∧ RNum V3 (.agg #[.bool na, .slice ao al ac, .slice aO aL aC]) x L ∧ ROwn (g + 1 + 1) V3 (.agg #[.bool nm, .slice mo ml mc, .slice mO mL mC]) (fo muQ 1 (fun _ => x) 0) ∧ Below g w V3 ∧ g + 1 + 1 ≤ V3.heap.size) := ⟨qS, qR, qA, ha, hv, bw, zw⟩
  clear ha qA qR hv qS bw zw
  go_wp2_with fail
  go_loopg [23] n (fun g1 v16 wr => ∃ (i : Nat) (nm_ : Bool) (mo : Option Addr) (ml mc : Nat) (mO : Option Addr) (mL mC : Nat), v16 = .int .i64 i ∧ i ≤ n ∧ n - i ≤ g1 ∧ Hid (QCell wr aS nm_ (.slice mo ml mc) (.slice mO mL mC) ∧ QCell wr (g + 1) false (.slice none 0 0) (.slice none 0 0) ∧ QCell wr (g) na (.slice ao al ac) (.slice aO aL aC) ∧ RNum wr (.agg #[.bool na, .slice ao al ac, .slice aO aL aC]) x L ∧ ROwn (g + 1 + 1) wr (.agg #[.bool nm_, .slice mo ml mc, .slice mO mL mC]) (fo muQ 1 (fun _ => x) i) ∧ Below g w wr ∧ g + 1 + 1 ≤ wr.heap.size))
  case atStart => exact ⟨0, _, _, _, _, _, _, _, rfl, Nat.zero_le _, by omega, H0⟩
  case round =>
    clear H0
    obtain ⟨i, nm, mo, ml, mc, mO, mL, mC, rfl, hin, hg1, HB⟩ := hrel
    obtain ⟨qS, qR, qA, ha, hv, bw, zw⟩ := HB.out
    clear HB
    by_cases hlt : i < n
    · have hltz : (i : Int) < (n : Int) := by omega
      have HLT : aS < wr.heap.size := qS.ltR
      have HGE : g + 1 + 1 ≤ wr.heap.size := zw
      have CC : Hid _ := ratsMul (hv.nm (HS.out i hin) (by omega)) ha (by omega)
      obtain ⟨cS0, cS1, cS2⟩ := qS.cells
      obtain ⟨cA0, cA1, cA2⟩ := qA.cells
      have H_qS : Hid (QCell wr (aS) nm (.slice mo ml mc) (.slice mO mL mC)) := qS
      have H_qR : Hid (QCell wr (g + 1) false (.slice none 0 0) (.slice none 0 0)) := qR
      have H_qA : Hid (QCell wr (g) na (.slice ao al ac) (.slice aO aL aC)) := qA
      have H_ha : Hid (RNum wr (.agg #[.bool na, .slice ao al ac, .slice aO aL aC]) x L) := ha
      have H_hv : Hid (ROwn (g + 1 + 1) wr (.agg #[.bool nm, .slice mo ml mc, .slice mO mL mC]) (fo muQ 1 (fun _ => x) i)) := hv
      have H_bw : Hid (Below g w wr) := bw
      have H_zw : Hid (g + 1 + 1 ≤ wr.heap.size) := zw
      clear qS qR qA ha hv bw zw
      go_wp2_with fail
      refine Calls.mono CC.out ?_
      rintro e x4 ⟨v2, rfl, hn, b4⟩
      clear CC cS0 cS1 cS2 cA0 cA1 cA2
      have qS := H_qS.out
      have qR := H_qR.out
      have qA := H_qA.out
      have ha := H_ha.out
      have hv := H_hv.out
      have bw := H_bw.out
      have zw := H_zw.out
      clear H_qS H_qR H_qA H_ha H_hv H_bw H_zw
      replace qS := qS.below b4
      replace qR := qR.below b4
      replace qA := qA.below b4
      replace ha := ha.below b4
      replace hv := hv.below b4
      replace bw := bw.trans (b4.mono (by omega))
      replace zw := Nat.le_trans zw b4.size
      clear b4
      obtain ⟨nu, uo, ul, uc, uO, uL, uC, rfl⟩ := hn.seeV
      have hls := HLS.out
      obtain ⟨m9, d9, e9, hm9, hd9, hap9⟩ := hn
      simp only [Value.agg.injEq, Array.mk.injEq, List.cons.injEq, Value.bool.injEq, and_true] at e9
      obtain ⟨hb9, rfl, rfl⟩ := e9
      have HN : Hid (QCell (((x4.setCell ⟨aS, 0, none⟩ (.bool nu)).setCell ⟨aS, 1, none⟩ (.slice uo ul uc)).setCell ⟨aS, 2, none⟩ (.slice uO uL uC)) aS nu (.slice uo ul uc) (.slice uO uL uC) ∧ QCell (((x4.setCell ⟨aS, 0, none⟩ (.bool nu)).setCell ⟨aS, 1, none⟩ (.slice uo ul uc)).setCell ⟨aS, 2, none⟩ (.slice uO uL uC)) (g + 1) false (.slice none 0 0) (.slice none 0 0) ∧ QCell (((x4.setCell ⟨aS, 0, none⟩ (.bool nu)).setCell ⟨aS, 1, none⟩ (.slice uo ul uc)).setCell ⟨aS, 2, none⟩ (.slice uO uL uC)) (g) na (.slice ao al ac) (.slice aO aL aC) ∧ RNum (((x4.setCell ⟨aS, 0, none⟩ (.bool nu)).setCell ⟨aS, 1, none⟩ (.slice uo ul uc)).setCell ⟨aS, 2, none⟩ (.slice uO uL uC)) (.agg #[.bool na, .slice ao al ac, .slice aO aL aC]) x L ∧ ROwn (g + 1 + 1) (((x4.setCell ⟨aS, 0, none⟩ (.bool nu)).setCell ⟨aS, 1, none⟩ (.slice uo ul uc)).setCell ⟨aS, 2, none⟩ (.slice uO uL uC)) (.agg #[.bool nu, .slice uo ul uc, .slice uO uL uC]) (fo muQ 1 (fun _ => x) (i + 1)) ∧ Below g w (((x4.setCell ⟨aS, 0, none⟩ (.bool nu)).setCell ⟨aS, 1, none⟩ (.slice uo ul uc)).setCell ⟨aS, 2, none⟩ (.slice uO uL uC)) ∧ g + 1 + 1 ≤ (((x4.setCell ⟨aS, 0, none⟩ (.bool nu)).setCell ⟨aS, 1, none⟩ (.slice uo ul uc)).setCell ⟨aS, 2, none⟩ (.slice uO uL uC)).heap.size) := ⟨qS.write _ _ _, ((qR.other (by omega) _ _).other (by omega) _ _).other (by omega) _ _, ((qA.other (by omega) _ _).other (by omega) _ _).other (by omega) _ _, rnum_box ha qS _ _ _, rown_store hb9 hm9 hd9 hap9 HLT HGE, ((bw.setCell (p := ⟨aS, 0, none⟩) (by show g ≤ aS; omega) _).setCell (p := ⟨aS, 1, none⟩) (by show g ≤ aS; omega) _).setCell (p := ⟨aS, 2, none⟩) (by show g ≤ aS; omega) _, by simpa [World.setCell] using zw⟩
      obtain ⟨cS0, cS1, cS2⟩ := qS.cells
      have f0 := qS.thaw 0
      have f1 := qS.thaw 1
      have f2 := qS.thaw 2
      clear hm9 hd9 hap9 hb9 hls HLT HGE qS qR qA ha hv bw zw
      go_wp2_with fail
      go_roundg (n - (i + 1))
      case measure => omega
      case rel => exact ⟨i + 1, _, _, _, _, _, _, _, by go_num, by omega, Nat.le_refl _, HN⟩
    · have hltz : ¬ (i : Int) < (n : Int) := by omega
      have hie : i = n := by omega
      subst hie
      rw [← HR.out] at hv
      have HE : Hid (REnd w (r) (.returned (.agg #[.bool nm, .slice mo ml mc, .slice mO mL mC])) (((wr.setCell ⟨g + 1, 0, none⟩ (.bool nm)).setCell ⟨g + 1, 1, none⟩ (.slice mo ml mc)).setCell ⟨g + 1, 2, none⟩ (.slice mO mL mC))) := ROwn.doneR hv (by rw [← HG.out]; omega) (by omega) (by rw [← HG.out]; exact bw)
      have HW : Hid (QCell (((wr.setCell ⟨g + 1, 0, none⟩ (.bool nm)).setCell ⟨g + 1, 1, none⟩ (.slice mo ml mc)).setCell ⟨g + 1, 2, none⟩ (.slice mO mL mC)) (g + 1) nm (.slice mo ml mc) (.slice mO mL mC)) := qR.write _ _ _
      obtain ⟨cR0, cR1, cR2⟩ := qR.cells
      obtain ⟨cS0, cS1, cS2⟩ := qS.cells
      have f0 := qR.thaw 0
      have f1 := qR.thaw 1
      have f2 := qR.thaw 2
      clear qS qR qA ha hv bw zw
      go_wp2_with fail
      (try simp only [Exit.inBlock, Exit.then])
      exact bodyPost_ret (results_ct (p := 6) (u := 7) rfl _ _ (g + 1) 27 _ (0, 0) _ rfl HW.out Tryz.underlying27 rfl (by kernel_rfl)) rfl (by obtain ⟨v, e, h1, h2⟩ := HE.out; cases e; exact ⟨_, rfl, h1, h2⟩)
/-- What Power leaves without a ring. -/
def PNil (w : World) (e : Ending) (w' : World) : Prop := e = .returned (.tuple #[.agg #[.bool false, .slice none 0 0, .slice none 0 0], .int .i64 2]) ∧ Below w.heap.size w w'
set_option maxRecDepth 100000 in
set_option maxHeartbeats 6400000 in
theorem powNil {a : Value} {x : Rat} (n : Int) (L : Nat) (w : World) (ha : RNum w a x L) : Calls Tryz.prog 60 #[.nilIface, a, .int .i64 n] w fun e w' => PNil w e w' := by
  obtain ⟨na, ao, al, ac, aO, aL, aC, rfl⟩ := ha.seeV
  obtain ⟨W1, hW1⟩ : ∃ W1, W1 = (w.alloc (.cells #[.bool na, .slice ao al ac, .slice aO aL aC] 27)).alloc (.cells #[.bool false, .slice none 0 0, .slice none 0 0] 27) := ⟨_, rfl⟩
  have qA : QCell W1 (w.heap.size) na (.slice ao al ac) (.slice aO aL aC) := by rw [hW1]; exact (qcell_step (qcell_new _ rfl))
  have qR : QCell W1 (w.heap.size + 1) false (.slice none 0 0) (.slice none 0 0) := by rw [hW1]; exact (qcell_new _ (by simp))
  have bw : Below w.heap.size w W1 := by rw [hW1]; exact bstep (belowA w _) (belowA _ _)
  have zw : w.heap.size + 1 + 1 ≤ W1.heap.size := by rw [hW1]; simp
  replace ha := ha.below bw
  obtain ⟨g, hg⟩ : ∃ g, g = w.heap.size := ⟨_, rfl⟩
  rw [← hg] at qA qR bw zw
  have HW1 : Hid (W1 = (w.alloc (.cells #[.bool na, .slice ao al ac, .slice aO aL aC] 27)).alloc (.cells #[.bool false, .slice none 0 0, .slice none 0 0] 27)) := hW1
  have HG : Hid (g = w.heap.size) := hg
  clear hW1 hg
  have H_ha : Hid (RNum W1 (.agg #[.bool na, .slice ao al ac, .slice aO aL aC]) x L) := ha
  have H_qA : Hid (QCell W1 (g) na (.slice ao al ac) (.slice aO aL aC)) := qA
  have H_qR : Hid (QCell W1 (g + 1) false (.slice none 0 0) (.slice none 0 0)) := qR
  have H_bw : Hid (Below g w W1) := bw
  have H_zw : Hid (g + 1 + 1 ≤ W1.heap.size) := zw
  clear ha qA qR bw zw
  go_enter Tryz.func60, Tryz.ntmps60
  go_upto_region 1 with fail
  rw [← HW1.out, ← HG.out]
  clear HW1
  have ha := H_ha.out
  have qA := H_qA.out
  have qR := H_qR.out
  have bw := H_bw.out
  have zw := H_zw.out
  clear H_ha H_qA H_qR H_bw H_zw
  obtain ⟨V1, hV1⟩ : ∃ u, u = W1.alloc (.cells #[.bool false, .slice none 0 0, .slice none 0 0] 27) := ⟨_, rfl⟩
  obtain ⟨aN, haN⟩ : ∃ s, s = W1.heap.size := ⟨_, rfl⟩
  have qN : QCell V1 (aN) false (.slice none 0 0) (.slice none 0 0) := by rw [hV1]; exact qcell_new _ haN.symm
  have bq : Below W1.heap.size W1 V1 := by rw [hV1]; exact belowA _ _
  have HV1 : Hid (V1 = W1.alloc (.cells #[.bool false, .slice none 0 0, .slice none 0 0] 27)) := hV1
  have HaN : Hid (aN = W1.heap.size) := haN
  clear hV1 haN
  replace ha := ha.below bq
  replace qA := qA.below bq
  replace qR := qR.below bq
  replace bw := bw.trans (bq.mono (by omega))
  replace zw := Nat.le_trans zw bq.size
  clear bq
  have H_ha : Hid (RNum V1 (.agg #[.bool na, .slice ao al ac, .slice aO aL aC]) x L) := ha
  have H_qA : Hid (QCell V1 (g) na (.slice ao al ac) (.slice aO aL aC)) := qA
  have H_qR : Hid (QCell V1 (g + 1) false (.slice none 0 0) (.slice none 0 0)) := qR
  have H_qN : Hid (QCell V1 (aN) false (.slice none 0 0) (.slice none 0 0)) := qN
  have H_bw : Hid (Below g w V1) := bw
  have H_zw : Hid (g + 1 + 1 ≤ V1.heap.size) := zw
  clear ha qA qR qN bw zw
  go_upto_region 2 with fail
  rw [← HV1.out, ← HaN.out]
  clear HV1 HaN 
  have ha := H_ha.out
  have qA := H_qA.out
  have qR := H_qR.out
  have qN := H_qN.out
  have bw := H_bw.out
  have zw := H_zw.out
  clear H_ha H_qA H_qR H_qN H_bw H_zw
  have HE : Hid (PNil w (.returned (.tuple #[.agg #[.bool false, .slice none 0 0, .slice none 0 0], .int .i64 2])) (((V1.setCell ⟨g + 1, 0, none⟩ (.bool false)).setCell ⟨g + 1, 1, none⟩ (.slice none 0 0)).setCell ⟨g + 1, 2, none⟩ (.slice none 0 0))) := ⟨rfl, by rw [← HG.out]; exact ((bw.setCell (p := ⟨g + 1, 0, none⟩) (Nat.le_succ _) _).setCell (p := ⟨g + 1, 1, none⟩) (Nat.le_succ _) _).setCell (p := ⟨g + 1, 2, none⟩) (Nat.le_succ _) _⟩
  have HW : Hid (QCell (((V1.setCell ⟨g + 1, 0, none⟩ (.bool false)).setCell ⟨g + 1, 1, none⟩ (.slice none 0 0)).setCell ⟨g + 1, 2, none⟩ (.slice none 0 0)) (g + 1) false (.slice none 0 0) (.slice none 0 0)) := qR.write _ _ _
  obtain ⟨cR0, cR1, cR2⟩ := qR.cells
  obtain ⟨cN0, cN1, cN2⟩ := qN.cells
  have f0 := qR.thaw 0
  have f1 := qR.thaw 1
  have f2 := qR.thaw 2
  clear ha qA qR qN bw zw
  go_wp2_with fail
  (try simp only [Exit.inBlock, Exit.then])
  exact bodyPost_ret (results_ct (p := 6) (u := 7) rfl _ _ (g + 1) 27 _ (0, 0) _ rfl HW.out Tryz.underlying27 rfl (by kernel_rfl)) rfl HE.out
end Go.Proofs.YtaafijifiiiblaaGreat
