/-
  Proved here: package ring's rings of fractions, method by method; the document's half.
-/
import Derived.Test.YtaafijifiiiblaaGreatSimp1All
import Derived.Test.YtaafijifiiiblaaGreatFracF
import Derived.Test.YtaafijifiiiblaaGreatFracEAll
import Derived.Test.YtaafijifiiiblaaGreatSimp2
import Derived.Shelf.Abstract
import Derived.WalkLawsBesides
namespace Go.Proofs.YtaafijifiiiblaaGreat
open Go.RowKit
theorem RNum.seeV {w : World} {v : Value} {x : Rat} {L : Nat} (h : RNum w v x L) : ∃ n ao al ac bo bl bc, v = .agg #[.bool n, .slice ao al ac, .slice bo bl bc] := by
  obtain ⟨p, q, ⟨n, ao, al, ac, bo, bl, bc, ys, rfl, _⟩, _⟩ := h
  exact ⟨_, _, _, _, _, _, _, rfl⟩
theorem ROwn.doneR {w w3 : World} {g B : Nat} {r : Rat} {n : Bool} {m d : Value} (h : ROwn B w3 (.agg #[.bool n, m, d]) r) (hg : w.heap.size ≤ g) (hgB : g < B) (hbel : Below w.heap.size w w3) :
    REnd w r (.returned (.agg #[.bool n, m, d])) (((w3.setCell ⟨g, 0, none⟩ (.bool n)).setCell ⟨g, 1, none⟩ m).setCell ⟨g, 2, none⟩ d) := by
  obtain ⟨m', d', e, h1, h2, h3⟩ := h
  simp only [Value.agg.injEq, Array.mk.injEq, List.cons.injEq, Value.bool.injEq, and_true] at e
  obtain ⟨e1, rfl, rfl⟩ := e
  subst e1
  exact rat_done rfl hg h1 h2 h3 hgB hbel
theorem ROwn.seeV {B : Nat} {w : World} {v : Value} {r : Rat} (h : ROwn B w v r) : ∃ n ao al ac bo bl bc, v = .agg #[.bool n, .slice ao al ac, .slice bo bl bc] := by
  obtain ⟨m, d, rfl, h1, h2, _⟩ := h
  obtain ⟨_, _, _, rfl⟩ := h1.sl
  obtain ⟨_, _, _, rfl⟩ := h2.sl
  exact ⟨_, _, _, _, _, _, _, rfl⟩
theorem ROwn.nm {B : Nat} {w : World} {v : Value} {r : Rat} {L : Nat} (h : ROwn B w v r) (hs : RSz r L) (hL : L ≤ 1000000) : RNum w v r L := h.std.num hs hL
/-- The greater one. -/
def mxQ (x y : Rat) : Rat := if cmpQ x y < 0 then y else x
theorem rrow_one {w : World} {n : Bool} {ao bo : Option Addr} {al ac bl bc : Nat} {x : Rat} {L : Nat} (h : RNum w (.agg #[.bool n, .slice ao al ac, .slice bo bl bc]) x L) :
    RRow (w.alloc (.cells #[.bool n, .slice ao al ac, .slice bo bl bc] 27)) w.heap.size 1 (fun _ => x) L := by
  intro i hi
  have : i = 0 := by omega
  subst this
  have q := qcell_new w (neg := n) (m := .slice ao al ac) (d := .slice bo bl bc) rfl
  exact ⟨n, ao, al, ac, bo, bl, bc, q.cells.1, q.cells.2.1, q.cells.2.2, h.below (belowA _ _)⟩
theorem mRatsZero (w : World) : (Go.method 268 32 (.agg #[]) "Zero").run Tryz.prog w = .ok (12, .agg #[]) w := by kernel_rfl
theorem entRatsZero : ∀ args w, (callFunc 12 args).run Tryz.prog w = .ok (.enter 12 args) w := enters_of Tryz.func12 (by kernel_rfl) rfl
theorem mRatsOne (w : World) : (Go.method 268 32 (.agg #[]) "One").run Tryz.prog w = .ok (13, .agg #[]) w := by kernel_rfl
theorem entRatsOne : ∀ args w, (callFunc 13 args).run Tryz.prog w = .ok (.enter 13 args) w := enters_of Tryz.func13 (by kernel_rfl) rfl
theorem mRatsAdd (w : World) : (Go.method 268 32 (.agg #[]) "Add").run Tryz.prog w = .ok (14, .agg #[]) w := by kernel_rfl
theorem entRatsAdd : ∀ args w, (callFunc 14 args).run Tryz.prog w = .ok (.enter 14 args) w := enters_of Tryz.func14 (by kernel_rfl) rfl
theorem mRatsMul (w : World) : (Go.method 268 32 (.agg #[]) "Mul").run Tryz.prog w = .ok (15, .agg #[]) w := by kernel_rfl
theorem entRatsMul : ∀ args w, (callFunc 15 args).run Tryz.prog w = .ok (.enter 15 args) w := enters_of Tryz.func15 (by kernel_rfl) rfl
theorem mMostZero (w : World) : (Go.method 268 33 (.agg #[]) "Zero").run Tryz.prog w = .ok (16, .agg #[]) w := by kernel_rfl
theorem entMostZero : ∀ args w, (callFunc 16 args).run Tryz.prog w = .ok (.enter 16 args) w := enters_of Tryz.func16 (by kernel_rfl) rfl
theorem mMostAdd (w : World) : (Go.method 268 33 (.agg #[]) "Add").run Tryz.prog w = .ok (18, .agg #[]) w := by kernel_rfl
theorem entMostAdd : ∀ args w, (callFunc 18 args).run Tryz.prog w = .ok (.enter 18 args) w := enters_of Tryz.func18 (by kernel_rfl) rfl
set_option maxRecDepth 100000 in
set_option maxHeartbeats 6400000 in
theorem smallR {n d : Int} {w : World} (h1 : -9223372036854775808 ≤ n) (h2 : n ≤ 9223372036854775807) (h3 : -9223372036854775808 ≤ d) (h4 : d ≤ 9223372036854775807) (hd : d ≠ 0) : Calls Tryz.prog 69 #[.int .i64 n, .int .i64 d] w fun e w' => REnd w (Rat.divInt n d) e w' := by
  obtain ⟨W1, hW1⟩ : ∃ W1, W1 = w.alloc (.cells #[.bool false, .slice none 0 0, .slice none 0 0] 27) := ⟨_, rfl⟩
  have qR : QCell W1 (w.heap.size) false (.slice none 0 0) (.slice none 0 0) := by rw [hW1]; exact (qcell_new _ rfl)
  have bw : Below w.heap.size w W1 := by rw [hW1]; exact belowA w _
  have zw : w.heap.size + 1 ≤ W1.heap.size := by rw [hW1]; simp
  obtain ⟨g, hg⟩ : ∃ g, g = w.heap.size := ⟨_, rfl⟩
  rw [← hg] at qR bw zw
  have HW1 : Hid (W1 = w.alloc (.cells #[.bool false, .slice none 0 0, .slice none 0 0] 27)) := hW1
  have HG : Hid (g = w.heap.size) := hg
  clear hW1 hg
  have H_qR : Hid (QCell W1 (g) false (.slice none 0 0) (.slice none 0 0)) := qR
  have H_bw : Hid (Below g w W1) := bw
  have H_zw : Hid (g + 1 ≤ W1.heap.size) := zw
  clear qR bw zw
  go_enter Tryz.func69, Tryz.ntmps69
  go_upto_region 1 with fail
  rw [← HW1.out, ← HG.out]
  clear HW1
  have qR := H_qR.out
  have bw := H_bw.out
  have zw := H_zw.out
  clear H_qR H_bw H_zw
  have CC : Hid _ := of3_yes (n := n) (d := d) (w := W1) (by omega) (by omega) (by omega) (by omega) hd
  obtain ⟨cR0, cR1, cR2⟩ := qR.cells
  have H_qR : Hid (QCell W1 (g) false (.slice none 0 0) (.slice none 0 0)) := qR
  have H_bw : Hid (Below g w W1) := bw
  have H_zw : Hid (g + 1 ≤ W1.heap.size) := zw
  clear qR bw zw
  go_wp2_with fail
  refine Calls.mono CC.out ?_
  rintro e x1 ⟨v, rfl, hv, b1⟩
  clear CC cR0 cR1 cR2
  have qR := H_qR.out
  have bw := H_bw.out
  have zw := H_zw.out
  clear H_qR H_bw H_zw
  replace hv := hv.rehome (B' := g + 1) zw
  replace qR := qR.below b1
  replace bw := bw.trans (b1.mono (by omega))
  replace zw := Nat.le_trans zw b1.size
  clear b1
  obtain ⟨nm, mo, ml, mc, mO, mL, mC, rfl⟩ := hv.seeV
  obtain ⟨V2, hV2⟩ : ∃ u, u = x1.alloc (.cells #[.bool nm, .slice mo ml mc, .slice mO mL mC] 27) := ⟨_, rfl⟩
  obtain ⟨aA, haA⟩ : ∃ s, s = x1.heap.size := ⟨_, rfl⟩
  have qA : QCell V2 (aA) nm (.slice mo ml mc) (.slice mO mL mC) := by rw [hV2]; exact qcell_new _ haA.symm
  have bq : Below x1.heap.size x1 V2 := by rw [hV2]; exact belowA _ _
  have lA : g + 1 ≤ aA := by rw [haA]; exact zw
  have HV2 : Hid (V2 = x1.alloc (.cells #[.bool nm, .slice mo ml mc, .slice mO mL mC] 27)) := hV2
  have HaA : Hid (aA = x1.heap.size) := haA
  clear hV2 haA
  replace qR := qR.below bq
  replace hv := hv.below bq
  replace bw := bw.trans (bq.mono (by omega))
  replace zw := Nat.le_trans zw bq.size
  clear bq
  have H_qR : Hid (QCell V2 (g) false (.slice none 0 0) (.slice none 0 0)) := qR
  have H_hv : Hid (ROwn (g + 1) V2 (.agg #[.bool nm, .slice mo ml mc, .slice mO mL mC]) (Rat.divInt n d)) := hv
  have H_qA : Hid (QCell V2 (aA) nm (.slice mo ml mc) (.slice mO mL mC)) := qA
  have H_bw : Hid (Below g w V2) := bw
  have H_zw : Hid (g + 1 ≤ V2.heap.size) := zw
  clear qR hv qA bw zw
  go_upto_region 2 with fail
  rw [← HV2.out, ← HaA.out]
  clear HV2 HaA
  have qR := H_qR.out
  have hv := H_hv.out
  have qA := H_qA.out
  have bw := H_bw.out
  have zw := H_zw.out
  clear H_qR H_hv H_qA H_bw H_zw
  have HE : Hid (REnd w (Rat.divInt n d) (.returned (.agg #[.bool nm, .slice mo ml mc, .slice mO mL mC])) (((V2.setCell ⟨g, 0, none⟩ (.bool nm)).setCell ⟨g, 1, none⟩ (.slice mo ml mc)).setCell ⟨g, 2, none⟩ (.slice mO mL mC))) := ROwn.doneR hv (by rw [← HG.out]; omega) (by omega) (by rw [← HG.out]; exact bw)
  have HW : Hid (QCell (((V2.setCell ⟨g, 0, none⟩ (.bool nm)).setCell ⟨g, 1, none⟩ (.slice mo ml mc)).setCell ⟨g, 2, none⟩ (.slice mO mL mC)) (g) nm (.slice mo ml mc) (.slice mO mL mC)) := qR.write _ _ _
  obtain ⟨cR0, cR1, cR2⟩ := qR.cells
  obtain ⟨cA0, cA1, cA2⟩ := qA.cells
  have f0 := qR.thaw 0
  have f1 := qR.thaw 1
  have f2 := qR.thaw 2
  clear qR hv qA bw zw
  go_wp2_with fail
  (try simp only [Exit.inBlock, Exit.then])
  exact bodyPost_ret (results_cell_row rfl _ _ (g) 27 _ (0, 0) _ rfl HW.out Tryz.underlying27 rfl (by kernel_rfl)) rfl HE.out
set_option maxRecDepth 100000 in
set_option maxHeartbeats 6400000 in
theorem halfR {n d : Int} {w : World} (h1 : -9223372036854775808 ≤ n) (h2 : n ≤ 9223372036854775807) (h3 : -9223372036854775808 ≤ d) (h4 : d ≤ 9223372036854775807) (hd : d ≠ 0) : Calls Tryz.prog 20 #[.int .i64 n, .int .i64 d] w fun e w' => REnd w (Rat.divInt n d) e w' := by
  obtain ⟨W1, hW1⟩ : ∃ W1, W1 = w.alloc (.cells #[.bool false, .slice none 0 0, .slice none 0 0] 27) := ⟨_, rfl⟩
  have qR : QCell W1 (w.heap.size) false (.slice none 0 0) (.slice none 0 0) := by rw [hW1]; exact (qcell_new _ rfl)
  have bw : Below w.heap.size w W1 := by rw [hW1]; exact belowA w _
  have zw : w.heap.size + 1 ≤ W1.heap.size := by rw [hW1]; simp
  obtain ⟨g, hg⟩ : ∃ g, g = w.heap.size := ⟨_, rfl⟩
  rw [← hg] at qR bw zw
  have HW1 : Hid (W1 = w.alloc (.cells #[.bool false, .slice none 0 0, .slice none 0 0] 27)) := hW1
  have HG : Hid (g = w.heap.size) := hg
  clear hW1 hg
  have H_qR : Hid (QCell W1 (g) false (.slice none 0 0) (.slice none 0 0)) := qR
  have H_bw : Hid (Below g w W1) := bw
  have H_zw : Hid (g + 1 ≤ W1.heap.size) := zw
  clear qR bw zw
  go_enter Tryz.func20, Tryz.ntmps20
  go_upto_region 1 with fail
  rw [← HW1.out, ← HG.out]
  clear HW1
  have qR := H_qR.out
  have bw := H_bw.out
  have zw := H_zw.out
  clear H_qR H_bw H_zw
  have CC : Hid _ := smallR (w := W1) h1 h2 h3 h4 hd
  obtain ⟨cR0, cR1, cR2⟩ := qR.cells
  have H_qR : Hid (QCell W1 (g) false (.slice none 0 0) (.slice none 0 0)) := qR
  have H_bw : Hid (Below g w W1) := bw
  have H_zw : Hid (g + 1 ≤ W1.heap.size) := zw
  clear qR bw zw
  go_wp2_with fail
  refine Calls.mono CC.out ?_
  rintro e x1 ⟨v, rfl, hv, b1⟩
  clear CC cR0 cR1 cR2
  have qR := H_qR.out
  have bw := H_bw.out
  have zw := H_zw.out
  clear H_qR H_bw H_zw
  replace hv := hv.rehome (B' := g + 1) zw
  replace qR := qR.below b1
  replace bw := bw.trans (b1.mono (by omega))
  replace zw := Nat.le_trans zw b1.size
  clear b1
  obtain ⟨nm, mo, ml, mc, mO, mL, mC, rfl⟩ := hv.seeV
  have HE : Hid (REnd w (Rat.divInt n d) (.returned (.agg #[.bool nm, .slice mo ml mc, .slice mO mL mC])) (((x1.setCell ⟨g, 0, none⟩ (.bool nm)).setCell ⟨g, 1, none⟩ (.slice mo ml mc)).setCell ⟨g, 2, none⟩ (.slice mO mL mC))) := ROwn.doneR hv (by rw [← HG.out]; omega) (by omega) (by rw [← HG.out]; exact bw)
  have HW : Hid (QCell (((x1.setCell ⟨g, 0, none⟩ (.bool nm)).setCell ⟨g, 1, none⟩ (.slice mo ml mc)).setCell ⟨g, 2, none⟩ (.slice mO mL mC)) (g) nm (.slice mo ml mc) (.slice mO mL mC)) := qR.write _ _ _
  obtain ⟨cR0, cR1, cR2⟩ := qR.cells
  have f0 := qR.thaw 0
  have f1 := qR.thaw 1
  have f2 := qR.thaw 2
  clear qR hv bw zw
  go_wp2_with fail
  (try simp only [Exit.inBlock, Exit.then])
  exact bodyPost_ret (results_cell_row rfl _ _ (g) 27 _ (0, 0) _ rfl HW.out Tryz.underlying27 rfl (by kernel_rfl)) rfl HE.out
set_option maxRecDepth 100000 in
set_option maxHeartbeats 6400000 in
theorem ratsZero (w : World) : Calls Tryz.prog 12 #[.agg #[]] w fun e w' => REnd w 0 e w' := by
  obtain ⟨W1, hW1⟩ : ∃ W1, W1 = (w.alloc (.cells #[] 32)).alloc (.cells #[.bool false, .slice none 0 0, .slice none 0 0] 27) := ⟨_, rfl⟩
  have qR : QCell W1 (w.heap.size + 1) false (.slice none 0 0) (.slice none 0 0) := by rw [hW1]; exact (qcell_new _ (by simp))
  have bw : Below w.heap.size w W1 := by rw [hW1]; exact bstep (belowA w _) (belowA _ _)
  have zw : w.heap.size + 1 + 1 ≤ W1.heap.size := by rw [hW1]; simp
  obtain ⟨g, hg⟩ : ∃ g, g = w.heap.size := ⟨_, rfl⟩
  rw [← hg] at qR bw zw
  have HW1 : Hid (W1 = (w.alloc (.cells #[] 32)).alloc (.cells #[.bool false, .slice none 0 0, .slice none 0 0] 27)) := hW1
  have HG : Hid (g = w.heap.size) := hg
  clear hW1 hg
  have H_qR : Hid (QCell W1 (g + 1) false (.slice none 0 0) (.slice none 0 0)) := qR
  have H_bw : Hid (Below g w W1) := bw
  have H_zw : Hid (g + 1 + 1 ≤ W1.heap.size) := zw
  clear qR bw zw
  go_enter Tryz.func12, Tryz.ntmps12
  go_upto_region 1 with fail
  rw [← HW1.out, ← HG.out]
  clear HW1
  have qR := H_qR.out
  have bw := H_bw.out
  have zw := H_zw.out
  clear H_qR H_bw H_zw
  have CC : Hid _ := c_rsum none 0 0 0 (fun _ => 0) 1 W1 (fun h => absurd h (Nat.lt_irrefl _)) (fun i hi => absurd hi (Nat.not_lt_zero _)) (by decide)
  obtain ⟨cR0, cR1, cR2⟩ := qR.cells
  have H_qR : Hid (QCell W1 (g + 1) false (.slice none 0 0) (.slice none 0 0)) := qR
  have H_bw : Hid (Below g w W1) := bw
  have H_zw : Hid (g + 1 + 1 ≤ W1.heap.size) := zw
  clear qR bw zw
  go_wp2_with fail
  refine Calls.mono CC.out ?_
  rintro e x1 ⟨v, rfl, hv, b1⟩
  clear CC cR0 cR1 cR2
  have qR := H_qR.out
  have bw := H_bw.out
  have zw := H_zw.out
  clear H_qR H_bw H_zw
  replace hv := hv.rehome (B' := g + 1 + 1) zw
  replace qR := qR.below b1
  replace bw := bw.trans (b1.mono (by omega))
  replace zw := Nat.le_trans zw b1.size
  clear b1
  obtain ⟨nm, mo, ml, mc, mO, mL, mC, rfl⟩ := hv.seeV
  replace hv : ROwn (g + 1 + 1) x1 (.agg #[.bool nm, .slice mo ml mc, .slice mO mL mC]) 0 := hv
  have HE : Hid (REnd w (0) (.returned (.agg #[.bool nm, .slice mo ml mc, .slice mO mL mC])) (((x1.setCell ⟨g + 1, 0, none⟩ (.bool nm)).setCell ⟨g + 1, 1, none⟩ (.slice mo ml mc)).setCell ⟨g + 1, 2, none⟩ (.slice mO mL mC))) := ROwn.doneR hv (by rw [← HG.out]; omega) (by omega) (by rw [← HG.out]; exact bw)
  have HW : Hid (QCell (((x1.setCell ⟨g + 1, 0, none⟩ (.bool nm)).setCell ⟨g + 1, 1, none⟩ (.slice mo ml mc)).setCell ⟨g + 1, 2, none⟩ (.slice mO mL mC)) (g + 1) nm (.slice mo ml mc) (.slice mO mL mC)) := qR.write _ _ _
  obtain ⟨cR0, cR1, cR2⟩ := qR.cells
  have f0 := qR.thaw 0
  have f1 := qR.thaw 1
  have f2 := qR.thaw 2
  clear qR hv bw zw
  go_wp2_with fail
  (try simp only [Exit.inBlock, Exit.then])
  exact bodyPost_ret (results_cell_row rfl _ _ (g + 1) 27 _ (0, 0) _ rfl HW.out Tryz.underlying27 rfl (by kernel_rfl)) rfl HE.out
set_option maxRecDepth 100000 in
set_option maxHeartbeats 6400000 in
theorem ratsOne (w : World) : Calls Tryz.prog 13 #[.agg #[]] w fun e w' => REnd w 1 e w' := by
  obtain ⟨W1, hW1⟩ : ∃ W1, W1 = (w.alloc (.cells #[] 32)).alloc (.cells #[.bool false, .slice none 0 0, .slice none 0 0] 27) := ⟨_, rfl⟩
  have qR : QCell W1 (w.heap.size + 1) false (.slice none 0 0) (.slice none 0 0) := by rw [hW1]; exact (qcell_new _ (by simp))
  have bw : Below w.heap.size w W1 := by rw [hW1]; exact bstep (belowA w _) (belowA _ _)
  have zw : w.heap.size + 1 + 1 ≤ W1.heap.size := by rw [hW1]; simp
  obtain ⟨g, hg⟩ : ∃ g, g = w.heap.size := ⟨_, rfl⟩
  rw [← hg] at qR bw zw
  have HW1 : Hid (W1 = (w.alloc (.cells #[] 32)).alloc (.cells #[.bool false, .slice none 0 0, .slice none 0 0] 27)) := hW1
  have HG : Hid (g = w.heap.size) := hg
  clear hW1 hg
  have H_qR : Hid (QCell W1 (g + 1) false (.slice none 0 0) (.slice none 0 0)) := qR
  have H_bw : Hid (Below g w W1) := bw
  have H_zw : Hid (g + 1 + 1 ≤ W1.heap.size) := zw
  clear qR bw zw
  go_enter Tryz.func13, Tryz.ntmps13
  go_upto_region 1 with fail
  rw [← HW1.out, ← HG.out]
  clear HW1
  have qR := H_qR.out
  have bw := H_bw.out
  have zw := H_zw.out
  clear H_qR H_bw H_zw
  have CC : Hid _ := c_fof (n := 1) (d := 1) (w := W1) (by decide) (by decide) (by decide) (by decide) (by decide)
  obtain ⟨cR0, cR1, cR2⟩ := qR.cells
  have H_qR : Hid (QCell W1 (g + 1) false (.slice none 0 0) (.slice none 0 0)) := qR
  have H_bw : Hid (Below g w W1) := bw
  have H_zw : Hid (g + 1 + 1 ≤ W1.heap.size) := zw
  clear qR bw zw
  go_wp2_with fail
  refine Calls.mono CC.out ?_
  rintro e x1 ⟨v, rfl, hv, b1⟩
  clear CC cR0 cR1 cR2
  have qR := H_qR.out
  have bw := H_bw.out
  have zw := H_zw.out
  clear H_qR H_bw H_zw
  replace hv := hv.rehome (B' := g + 1 + 1) zw
  rw [show Rat.divInt 1 1 = 1 by decide] at hv
  replace qR := qR.below b1
  replace bw := bw.trans (b1.mono (by omega))
  replace zw := Nat.le_trans zw b1.size
  clear b1
  obtain ⟨nm, mo, ml, mc, mO, mL, mC, rfl⟩ := hv.seeV
  obtain ⟨V2, hV2⟩ : ∃ u, u = x1.alloc (.cells #[.bool nm, .slice mo ml mc, .slice mO mL mC] 27) := ⟨_, rfl⟩
  obtain ⟨aA, haA⟩ : ∃ s, s = x1.heap.size := ⟨_, rfl⟩
  have qA : QCell V2 (aA) nm (.slice mo ml mc) (.slice mO mL mC) := by rw [hV2]; exact qcell_new _ haA.symm
  have bq : Below x1.heap.size x1 V2 := by rw [hV2]; exact belowA _ _
  have lA : g + 1 + 1 ≤ aA := by rw [haA]; exact zw
  have HV2 : Hid (V2 = x1.alloc (.cells #[.bool nm, .slice mo ml mc, .slice mO mL mC] 27)) := hV2
  have HaA : Hid (aA = x1.heap.size) := haA
  clear hV2 haA
  replace qR := qR.below bq
  replace hv := hv.below bq
  replace bw := bw.trans (bq.mono (by omega))
  replace zw := Nat.le_trans zw bq.size
  clear bq
  have H_qR : Hid (QCell V2 (g + 1) false (.slice none 0 0) (.slice none 0 0)) := qR
  have H_hv : Hid (ROwn (g + 1 + 1) V2 (.agg #[.bool nm, .slice mo ml mc, .slice mO mL mC]) (1)) := hv
  have H_qA : Hid (QCell V2 (aA) nm (.slice mo ml mc) (.slice mO mL mC)) := qA
  have H_bw : Hid (Below g w V2) := bw
  have H_zw : Hid (g + 1 + 1 ≤ V2.heap.size) := zw
  clear qR hv qA bw zw
  go_upto_region 2 with fail
  rw [← HV2.out, ← HaA.out]
  clear HV2 HaA
  have qR := H_qR.out
  have hv := H_hv.out
  have qA := H_qA.out
  have bw := H_bw.out
  have zw := H_zw.out
  clear H_qR H_hv H_qA H_bw H_zw
  have HE : Hid (REnd w (1) (.returned (.agg #[.bool nm, .slice mo ml mc, .slice mO mL mC])) (((V2.setCell ⟨g + 1, 0, none⟩ (.bool nm)).setCell ⟨g + 1, 1, none⟩ (.slice mo ml mc)).setCell ⟨g + 1, 2, none⟩ (.slice mO mL mC))) := ROwn.doneR hv (by rw [← HG.out]; omega) (by omega) (by rw [← HG.out]; exact bw)
  have HW : Hid (QCell (((V2.setCell ⟨g + 1, 0, none⟩ (.bool nm)).setCell ⟨g + 1, 1, none⟩ (.slice mo ml mc)).setCell ⟨g + 1, 2, none⟩ (.slice mO mL mC)) (g + 1) nm (.slice mo ml mc) (.slice mO mL mC)) := qR.write _ _ _
  obtain ⟨cR0, cR1, cR2⟩ := qR.cells
  obtain ⟨cA0, cA1, cA2⟩ := qA.cells
  have f0 := qR.thaw 0
  have f1 := qR.thaw 1
  have f2 := qR.thaw 2
  clear qR hv qA bw zw
  go_wp2_with fail
  (try simp only [Exit.inBlock, Exit.then])
  exact bodyPost_ret (results_cell_row rfl _ _ (g + 1) 27 _ (0, 0) _ rfl HW.out Tryz.underlying27 rfl (by kernel_rfl)) rfl HE.out
set_option maxRecDepth 100000 in
set_option maxHeartbeats 6400000 in
theorem mostZero (w : World) : Calls Tryz.prog 16 #[.agg #[]] w fun e w' => REnd w 0 e w' := by
  obtain ⟨W1, hW1⟩ : ∃ W1, W1 = (w.alloc (.cells #[] 33)).alloc (.cells #[.bool false, .slice none 0 0, .slice none 0 0] 27) := ⟨_, rfl⟩
  have qR : QCell W1 (w.heap.size + 1) false (.slice none 0 0) (.slice none 0 0) := by rw [hW1]; exact (qcell_new _ (by simp))
  have bw : Below w.heap.size w W1 := by rw [hW1]; exact bstep (belowA w _) (belowA _ _)
  have zw : w.heap.size + 1 + 1 ≤ W1.heap.size := by rw [hW1]; simp
  obtain ⟨g, hg⟩ : ∃ g, g = w.heap.size := ⟨_, rfl⟩
  rw [← hg] at qR bw zw
  have HW1 : Hid (W1 = (w.alloc (.cells #[] 33)).alloc (.cells #[.bool false, .slice none 0 0, .slice none 0 0] 27)) := hW1
  have HG : Hid (g = w.heap.size) := hg
  clear hW1 hg
  have H_qR : Hid (QCell W1 (g + 1) false (.slice none 0 0) (.slice none 0 0)) := qR
  have H_bw : Hid (Below g w W1) := bw
  have H_zw : Hid (g + 1 + 1 ≤ W1.heap.size) := zw
  clear qR bw zw
  go_enter Tryz.func16, Tryz.ntmps16
  go_upto_region 1 with fail
  rw [← HW1.out, ← HG.out]
  clear HW1
  have qR := H_qR.out
  have bw := H_bw.out
  have zw := H_zw.out
  clear H_qR H_bw H_zw
  have CC : Hid _ := ratsZero W1
  obtain ⟨cR0, cR1, cR2⟩ := qR.cells
  have H_qR : Hid (QCell W1 (g + 1) false (.slice none 0 0) (.slice none 0 0)) := qR
  have H_bw : Hid (Below g w W1) := bw
  have H_zw : Hid (g + 1 + 1 ≤ W1.heap.size) := zw
  clear qR bw zw
  go_wp2_with fail
  refine Calls.mono CC.out ?_
  rintro e x1 ⟨v, rfl, hv, b1⟩
  clear CC cR0 cR1 cR2
  have qR := H_qR.out
  have bw := H_bw.out
  have zw := H_zw.out
  clear H_qR H_bw H_zw
  replace hv := hv.rehome (B' := g + 1 + 1) zw
  replace qR := qR.below b1
  replace bw := bw.trans (b1.mono (by omega))
  replace zw := Nat.le_trans zw b1.size
  clear b1
  obtain ⟨nm, mo, ml, mc, mO, mL, mC, rfl⟩ := hv.seeV
  have HE : Hid (REnd w (0) (.returned (.agg #[.bool nm, .slice mo ml mc, .slice mO mL mC])) (((x1.setCell ⟨g + 1, 0, none⟩ (.bool nm)).setCell ⟨g + 1, 1, none⟩ (.slice mo ml mc)).setCell ⟨g + 1, 2, none⟩ (.slice mO mL mC))) := ROwn.doneR hv (by rw [← HG.out]; omega) (by omega) (by rw [← HG.out]; exact bw)
  have HW : Hid (QCell (((x1.setCell ⟨g + 1, 0, none⟩ (.bool nm)).setCell ⟨g + 1, 1, none⟩ (.slice mo ml mc)).setCell ⟨g + 1, 2, none⟩ (.slice mO mL mC)) (g + 1) nm (.slice mo ml mc) (.slice mO mL mC)) := qR.write _ _ _
  obtain ⟨cR0, cR1, cR2⟩ := qR.cells
  have f0 := qR.thaw 0
  have f1 := qR.thaw 1
  have f2 := qR.thaw 2
  clear qR hv bw zw
  go_wp2_with fail
  (try simp only [Exit.inBlock, Exit.then])
  exact bodyPost_ret (results_cell_row rfl _ _ (g + 1) 27 _ (0, 0) _ rfl HW.out Tryz.underlying27 rfl (by kernel_rfl)) rfl HE.out
set_option maxRecDepth 100000 in
set_option maxHeartbeats 6400000 in
theorem ratsAdd {a b : Value} {x y : Rat} {L M : Nat} {w : World} (ha : RNum w a x L) (hb : RNum w b y M) (hK : L + M + 1 ≤ 1000000) : Calls Tryz.prog 14 #[.agg #[], a, b] w fun e w' => REnd w (x + y) e w' := by
  obtain ⟨na, ao, al, ac, aO, aL, aC, rfl⟩ := ha.seeV
  obtain ⟨nb, bo, bl, bc, bO, bL, bC, rfl⟩ := hb.seeV
  obtain ⟨W1, hW1⟩ : ∃ W1, W1 = (((w.alloc (.cells #[] 32)).alloc (.cells #[.bool na, .slice ao al ac, .slice aO aL aC] 27)).alloc (.cells #[.bool nb, .slice bo bl bc, .slice bO bL bC] 27)).alloc (.cells #[.bool false, .slice none 0 0, .slice none 0 0] 27) := ⟨_, rfl⟩
  have qA : QCell W1 (w.heap.size + 1) na (.slice ao al ac) (.slice aO aL aC) := by rw [hW1]; exact (qcell_step (qcell_step (qcell_new _ (by simp))))
  have qB : QCell W1 (w.heap.size + 1 + 1) nb (.slice bo bl bc) (.slice bO bL bC) := by rw [hW1]; exact (qcell_step (qcell_new _ (by simp)))
  have qR : QCell W1 (w.heap.size + 1 + 1 + 1) false (.slice none 0 0) (.slice none 0 0) := by rw [hW1]; exact (qcell_new _ (by simp))
  have bw : Below w.heap.size w W1 := by rw [hW1]; exact bstep (bstep (bstep (belowA w _) (belowA _ _)) (belowA _ _)) (belowA _ _)
  have zw : w.heap.size + 1 + 1 + 1 + 1 ≤ W1.heap.size := by rw [hW1]; simp
  replace ha := ha.below bw
  replace hb := hb.below bw
  obtain ⟨g, hg⟩ : ∃ g, g = w.heap.size := ⟨_, rfl⟩
  rw [← hg] at qA qB qR bw zw
  have HW1 : Hid (W1 = (((w.alloc (.cells #[] 32)).alloc (.cells #[.bool na, .slice ao al ac, .slice aO aL aC] 27)).alloc (.cells #[.bool nb, .slice bo bl bc, .slice bO bL bC] 27)).alloc (.cells #[.bool false, .slice none 0 0, .slice none 0 0] 27)) := hW1
  have HG : Hid (g = w.heap.size) := hg
  clear hW1 hg
  have H_ha : Hid (RNum W1 (.agg #[.bool na, .slice ao al ac, .slice aO aL aC]) x L) := ha
  have H_hb : Hid (RNum W1 (.agg #[.bool nb, .slice bo bl bc, .slice bO bL bC]) y M) := hb
  have H_qA : Hid (QCell W1 (g + 1) na (.slice ao al ac) (.slice aO aL aC)) := qA
  have H_qB : Hid (QCell W1 (g + 1 + 1) nb (.slice bo bl bc) (.slice bO bL bC)) := qB
  have H_qR : Hid (QCell W1 (g + 1 + 1 + 1) false (.slice none 0 0) (.slice none 0 0)) := qR
  have H_bw : Hid (Below g w W1) := bw
  have H_zw : Hid (g + 1 + 1 + 1 + 1 ≤ W1.heap.size) := zw
  clear ha hb qA qB qR bw zw
  go_enter Tryz.func14, Tryz.ntmps14
  go_upto_region 1 with fail
  rw [← HW1.out, ← HG.out]
  clear HW1
  have ha := H_ha.out
  have hb := H_hb.out
  have qA := H_qA.out
  have qB := H_qB.out
  have qR := H_qR.out
  have bw := H_bw.out
  have zw := H_zw.out
  clear H_ha H_hb H_qA H_qB H_qR H_bw H_zw
  have CC : Hid _ := c_radd ha hb hK
  obtain ⟨cA0, cA1, cA2⟩ := qA.cells
  obtain ⟨cB0, cB1, cB2⟩ := qB.cells
  obtain ⟨cR0, cR1, cR2⟩ := qR.cells
  have H_ha : Hid (RNum W1 (.agg #[.bool na, .slice ao al ac, .slice aO aL aC]) x L) := ha
  have H_hb : Hid (RNum W1 (.agg #[.bool nb, .slice bo bl bc, .slice bO bL bC]) y M) := hb
  have H_qA : Hid (QCell W1 (g + 1) na (.slice ao al ac) (.slice aO aL aC)) := qA
  have H_qB : Hid (QCell W1 (g + 1 + 1) nb (.slice bo bl bc) (.slice bO bL bC)) := qB
  have H_qR : Hid (QCell W1 (g + 1 + 1 + 1) false (.slice none 0 0) (.slice none 0 0)) := qR
  have H_bw : Hid (Below g w W1) := bw
  have H_zw : Hid (g + 1 + 1 + 1 + 1 ≤ W1.heap.size) := zw
  clear ha hb qA qB qR bw zw
  go_wp2_with fail
  refine Calls.mono CC.out ?_
  rintro e x1 ⟨v, rfl, hv, b1⟩
  clear CC cA0 cA1 cA2 cB0 cB1 cB2 cR0 cR1 cR2
  have ha := H_ha.out
  have hb := H_hb.out
  have qA := H_qA.out
  have qB := H_qB.out
  have qR := H_qR.out
  have bw := H_bw.out
  have zw := H_zw.out
  clear H_ha H_hb H_qA H_qB H_qR H_bw H_zw
  replace hv := hv.rehome (B' := g + 1 + 1 + 1 + 1) zw
  replace ha := ha.below b1
  replace hb := hb.below b1
  replace qA := qA.below b1
  replace qB := qB.below b1
  replace qR := qR.below b1
  replace bw := bw.trans (b1.mono (by omega))
  replace zw := Nat.le_trans zw b1.size
  clear b1
  obtain ⟨nm, mo, ml, mc, mO, mL, mC, rfl⟩ := hv.seeV
  have HE : Hid (REnd w (x + y) (.returned (.agg #[.bool nm, .slice mo ml mc, .slice mO mL mC])) (((x1.setCell ⟨g + 1 + 1 + 1, 0, none⟩ (.bool nm)).setCell ⟨g + 1 + 1 + 1, 1, none⟩ (.slice mo ml mc)).setCell ⟨g + 1 + 1 + 1, 2, none⟩ (.slice mO mL mC))) := ROwn.doneR hv (by rw [← HG.out]; omega) (by omega) (by rw [← HG.out]; exact bw)
  have HW : Hid (QCell (((x1.setCell ⟨g + 1 + 1 + 1, 0, none⟩ (.bool nm)).setCell ⟨g + 1 + 1 + 1, 1, none⟩ (.slice mo ml mc)).setCell ⟨g + 1 + 1 + 1, 2, none⟩ (.slice mO mL mC)) (g + 1 + 1 + 1) nm (.slice mo ml mc) (.slice mO mL mC)) := qR.write _ _ _
  obtain ⟨cR0, cR1, cR2⟩ := qR.cells
  have f0 := qR.thaw 0
  have f1 := qR.thaw 1
  have f2 := qR.thaw 2
  clear ha hb qA qB qR hv bw zw
  go_wp2_with fail
  (try simp only [Exit.inBlock, Exit.then])
  exact bodyPost_ret (results_cell_row rfl _ _ (g + 1 + 1 + 1) 27 _ (0, 0) _ rfl HW.out Tryz.underlying27 rfl (by kernel_rfl)) rfl HE.out
set_option maxRecDepth 100000 in
set_option maxHeartbeats 6400000 in
theorem ratsMul {a b : Value} {x y : Rat} {L M : Nat} {w : World} (ha : RNum w a x L) (hb : RNum w b y M) (hK : L + M + 1 ≤ 1000000) : Calls Tryz.prog 15 #[.agg #[], a, b] w fun e w' => REnd w (x * y) e w' := by
  obtain ⟨na, ao, al, ac, aO, aL, aC, rfl⟩ := ha.seeV
  obtain ⟨nb, bo, bl, bc, bO, bL, bC, rfl⟩ := hb.seeV
  obtain ⟨W1, hW1⟩ : ∃ W1, W1 = (((w.alloc (.cells #[] 32)).alloc (.cells #[.bool na, .slice ao al ac, .slice aO aL aC] 27)).alloc (.cells #[.bool nb, .slice bo bl bc, .slice bO bL bC] 27)).alloc (.cells #[.bool false, .slice none 0 0, .slice none 0 0] 27) := ⟨_, rfl⟩
  have qA : QCell W1 (w.heap.size + 1) na (.slice ao al ac) (.slice aO aL aC) := by rw [hW1]; exact (qcell_step (qcell_step (qcell_new _ (by simp))))
  have qB : QCell W1 (w.heap.size + 1 + 1) nb (.slice bo bl bc) (.slice bO bL bC) := by rw [hW1]; exact (qcell_step (qcell_new _ (by simp)))
  have qR : QCell W1 (w.heap.size + 1 + 1 + 1) false (.slice none 0 0) (.slice none 0 0) := by rw [hW1]; exact (qcell_new _ (by simp))
  have bw : Below w.heap.size w W1 := by rw [hW1]; exact bstep (bstep (bstep (belowA w _) (belowA _ _)) (belowA _ _)) (belowA _ _)
  have zw : w.heap.size + 1 + 1 + 1 + 1 ≤ W1.heap.size := by rw [hW1]; simp
  replace ha := ha.below bw
  replace hb := hb.below bw
  obtain ⟨g, hg⟩ : ∃ g, g = w.heap.size := ⟨_, rfl⟩
  rw [← hg] at qA qB qR bw zw
  have HW1 : Hid (W1 = (((w.alloc (.cells #[] 32)).alloc (.cells #[.bool na, .slice ao al ac, .slice aO aL aC] 27)).alloc (.cells #[.bool nb, .slice bo bl bc, .slice bO bL bC] 27)).alloc (.cells #[.bool false, .slice none 0 0, .slice none 0 0] 27)) := hW1
  have HG : Hid (g = w.heap.size) := hg
  clear hW1 hg
  have H_ha : Hid (RNum W1 (.agg #[.bool na, .slice ao al ac, .slice aO aL aC]) x L) := ha
  have H_hb : Hid (RNum W1 (.agg #[.bool nb, .slice bo bl bc, .slice bO bL bC]) y M) := hb
  have H_qA : Hid (QCell W1 (g + 1) na (.slice ao al ac) (.slice aO aL aC)) := qA
  have H_qB : Hid (QCell W1 (g + 1 + 1) nb (.slice bo bl bc) (.slice bO bL bC)) := qB
  have H_qR : Hid (QCell W1 (g + 1 + 1 + 1) false (.slice none 0 0) (.slice none 0 0)) := qR
  have H_bw : Hid (Below g w W1) := bw
  have H_zw : Hid (g + 1 + 1 + 1 + 1 ≤ W1.heap.size) := zw
  clear ha hb qA qB qR bw zw
  go_enter Tryz.func15, Tryz.ntmps15
  go_upto_region 1 with fail
  rw [← HW1.out, ← HG.out]
  clear HW1
  have ha := H_ha.out
  have hb := H_hb.out
  have qA := H_qA.out
  have qB := H_qB.out
  have qR := H_qR.out
  have bw := H_bw.out
  have zw := H_zw.out
  clear H_ha H_hb H_qA H_qB H_qR H_bw H_zw
  have CC : Hid _ := c_rmul ha hb hK
  obtain ⟨cA0, cA1, cA2⟩ := qA.cells
  obtain ⟨cB0, cB1, cB2⟩ := qB.cells
  obtain ⟨cR0, cR1, cR2⟩ := qR.cells
  have H_ha : Hid (RNum W1 (.agg #[.bool na, .slice ao al ac, .slice aO aL aC]) x L) := ha
  have H_hb : Hid (RNum W1 (.agg #[.bool nb, .slice bo bl bc, .slice bO bL bC]) y M) := hb
  have H_qA : Hid (QCell W1 (g + 1) na (.slice ao al ac) (.slice aO aL aC)) := qA
  have H_qB : Hid (QCell W1 (g + 1 + 1) nb (.slice bo bl bc) (.slice bO bL bC)) := qB
  have H_qR : Hid (QCell W1 (g + 1 + 1 + 1) false (.slice none 0 0) (.slice none 0 0)) := qR
  have H_bw : Hid (Below g w W1) := bw
  have H_zw : Hid (g + 1 + 1 + 1 + 1 ≤ W1.heap.size) := zw
  clear ha hb qA qB qR bw zw
  go_wp2_with fail
  refine Calls.mono CC.out ?_
  rintro e x1 ⟨v, rfl, hv, b1⟩
  clear CC cA0 cA1 cA2 cB0 cB1 cB2 cR0 cR1 cR2
  have ha := H_ha.out
  have hb := H_hb.out
  have qA := H_qA.out
  have qB := H_qB.out
  have qR := H_qR.out
  have bw := H_bw.out
  have zw := H_zw.out
  clear H_ha H_hb H_qA H_qB H_qR H_bw H_zw
  replace hv := hv.rehome (B' := g + 1 + 1 + 1 + 1) zw
  replace ha := ha.below b1
  replace hb := hb.below b1
  replace qA := qA.below b1
  replace qB := qB.below b1
  replace qR := qR.below b1
  replace bw := bw.trans (b1.mono (by omega))
  replace zw := Nat.le_trans zw b1.size
  clear b1
  obtain ⟨nm, mo, ml, mc, mO, mL, mC, rfl⟩ := hv.seeV
  have HE : Hid (REnd w (x * y) (.returned (.agg #[.bool nm, .slice mo ml mc, .slice mO mL mC])) (((x1.setCell ⟨g + 1 + 1 + 1, 0, none⟩ (.bool nm)).setCell ⟨g + 1 + 1 + 1, 1, none⟩ (.slice mo ml mc)).setCell ⟨g + 1 + 1 + 1, 2, none⟩ (.slice mO mL mC))) := ROwn.doneR hv (by rw [← HG.out]; omega) (by omega) (by rw [← HG.out]; exact bw)
  have HW : Hid (QCell (((x1.setCell ⟨g + 1 + 1 + 1, 0, none⟩ (.bool nm)).setCell ⟨g + 1 + 1 + 1, 1, none⟩ (.slice mo ml mc)).setCell ⟨g + 1 + 1 + 1, 2, none⟩ (.slice mO mL mC)) (g + 1 + 1 + 1) nm (.slice mo ml mc) (.slice mO mL mC)) := qR.write _ _ _
  obtain ⟨cR0, cR1, cR2⟩ := qR.cells
  have f0 := qR.thaw 0
  have f1 := qR.thaw 1
  have f2 := qR.thaw 2
  clear ha hb qA qB qR hv bw zw
  go_wp2_with fail
  (try simp only [Exit.inBlock, Exit.then])
  exact bodyPost_ret (results_cell_row rfl _ _ (g + 1 + 1 + 1) 27 _ (0, 0) _ rfl HW.out Tryz.underlying27 rfl (by kernel_rfl)) rfl HE.out
theorem QCell.nointR {w : World} {g : Nat} {n : Bool} {o O : Option Addr} {l c L C : Nat} (h : QCell w g n (.slice o l c) (.slice O L C)) : NoInt w g := by
  intro i k z e
  rw [cell_of_row w g _ _ _ _ h] at e
  match i, e with
  | 0, e => cases e
  | 1, e => cases e
  | 2, e => cases e
  | i + 3, e => simp at e
theorem rnum_box {w : World} {v : Value} {x : Rat} {L g : Nat} {n : Bool} {o O : Option Addr} {l c L2 C : Nat} (h : RNum w v x L) (q : QCell w g n (.slice o l c) (.slice O L2 C)) (a b d : Value) : RNum (((w.setCell ⟨g, 0, none⟩ a).setCell ⟨g, 1, none⟩ b).setCell ⟨g, 2, none⟩ d) v x L := by
  have hn : NoInt w g := q.nointR
  have hw : ∀ k, k ≠ g → (((w.setCell ⟨g, 0, none⟩ a).setCell ⟨g, 1, none⟩ b).setCell ⟨g, 2, none⟩ d).heap[k]? = w.heap[k]? := fun k hk => by rw [heap_setCell_other _ _ _ _ hk, heap_setCell_other _ _ _ _ hk, heap_setCell_other _ _ _ _ hk]
  obtain ⟨p, r, ⟨n', ao, al, ac, bo, bl, bc, ys, rfl, h1, h2, h3, h4⟩, h5⟩ := h
  exact ⟨p, r, ⟨n', ao, al, ac, bo, bl, bc, ys, rfl, h1.box hn hw, h2.box hn hw, h3, h4⟩, h5⟩
set_option maxRecDepth 100000 in
set_option maxHeartbeats 6400000 in
theorem mostAdd {a b : Value} {x y : Rat} {L M : Nat} {w : World} (ha : RNum w a x L) (hb : RNum w b y M) (hK : L + M + 1 ≤ 1000000) (hL2 : L + L + 3 ≤ 1000000) (hM2 : M + M + 3 ≤ 1000000) : Calls Tryz.prog 18 #[.agg #[], a, b] w fun e w' => REnd w (mxQ x y) e w' := by
  obtain ⟨na, ao, al, ac, aO, aL, aC, rfl⟩ := ha.seeV
  obtain ⟨nb, bo, bl, bc, bO, bL, bC, rfl⟩ := hb.seeV
  by_cases hc : cmpQ x y < 0
  · obtain ⟨cq, hcq⟩ : ∃ c, c = cmpQ x y := ⟨_, rfl⟩
    have HCQ : Hid (cmpQ x y = cq) := hcq.symm
    have HMX : Hid (mxQ x y = y) := if_pos hc
    rw [← hcq] at hc
    rw [HMX.out]
    clear hcq
    obtain ⟨W1, hW1⟩ : ∃ W1, W1 = (((w.alloc (.cells #[] 33)).alloc (.cells #[.bool na, .slice ao al ac, .slice aO aL aC] 27)).alloc (.cells #[.bool nb, .slice bo bl bc, .slice bO bL bC] 27)).alloc (.cells #[.bool false, .slice none 0 0, .slice none 0 0] 27) := ⟨_, rfl⟩
    have qA : QCell W1 (w.heap.size + 1) na (.slice ao al ac) (.slice aO aL aC) := by rw [hW1]; exact (qcell_step (qcell_step (qcell_new _ (by simp))))
    have qB : QCell W1 (w.heap.size + 1 + 1) nb (.slice bo bl bc) (.slice bO bL bC) := by rw [hW1]; exact (qcell_step (qcell_new _ (by simp)))
    have qR : QCell W1 (w.heap.size + 1 + 1 + 1) false (.slice none 0 0) (.slice none 0 0) := by rw [hW1]; exact (qcell_new _ (by simp))
    have bw : Below w.heap.size w W1 := by rw [hW1]; exact bstep (bstep (bstep (belowA w _) (belowA _ _)) (belowA _ _)) (belowA _ _)
    have zw : w.heap.size + 1 + 1 + 1 + 1 ≤ W1.heap.size := by rw [hW1]; simp
    replace ha := ha.below bw
    replace hb := hb.below bw
    obtain ⟨g, hg⟩ : ∃ g, g = w.heap.size := ⟨_, rfl⟩
    rw [← hg] at qA qB qR bw zw
    have HW1 : Hid (W1 = (((w.alloc (.cells #[] 33)).alloc (.cells #[.bool na, .slice ao al ac, .slice aO aL aC] 27)).alloc (.cells #[.bool nb, .slice bo bl bc, .slice bO bL bC] 27)).alloc (.cells #[.bool false, .slice none 0 0, .slice none 0 0] 27)) := hW1
    have HG : Hid (g = w.heap.size) := hg
    clear hW1 hg
    have H_ha : Hid (RNum W1 (.agg #[.bool na, .slice ao al ac, .slice aO aL aC]) x L) := ha
    have H_hb : Hid (RNum W1 (.agg #[.bool nb, .slice bo bl bc, .slice bO bL bC]) y M) := hb
    have H_qA : Hid (QCell W1 (g + 1) na (.slice ao al ac) (.slice aO aL aC)) := qA
    have H_qB : Hid (QCell W1 (g + 1 + 1) nb (.slice bo bl bc) (.slice bO bL bC)) := qB
    have H_qR : Hid (QCell W1 (g + 1 + 1 + 1) false (.slice none 0 0) (.slice none 0 0)) := qR
    have H_bw : Hid (Below g w W1) := bw
    have H_zw : Hid (g + 1 + 1 + 1 + 1 ≤ W1.heap.size) := zw
    clear ha hb qA qB qR bw zw
    go_enter Tryz.func18, Tryz.ntmps18
    go_upto_region 1 with fail
    rw [← HW1.out, ← HG.out]
    clear HW1
    have ha := H_ha.out
    have hb := H_hb.out
    have qA := H_qA.out
    have qB := H_qB.out
    have qR := H_qR.out
    have bw := H_bw.out
    have zw := H_zw.out
    clear H_ha H_hb H_qA H_qB H_qR H_bw H_zw
    obtain ⟨cA0, cA1, cA2⟩ := qA.cells
    obtain ⟨V1, hV1⟩ : ∃ u, u = W1.alloc (.cells #[.bool na, .slice ao al ac, .slice aO aL aC] 27) := ⟨_, rfl⟩
    obtain ⟨aG, haG⟩ : ∃ s, s = W1.heap.size := ⟨_, rfl⟩
    have qG : QCell V1 (aG) na (.slice ao al ac) (.slice aO aL aC) := by rw [hV1]; exact qcell_new _ haG.symm
    have bq : Below W1.heap.size W1 V1 := by rw [hV1]; exact belowA _ _
    have lG : g + 1 + 1 + 1 + 1 ≤ aG := by rw [haG]; exact zw
    have HV1 : Hid (V1 = W1.alloc (.cells #[.bool na, .slice ao al ac, .slice aO aL aC] 27)) := hV1
    have HaG : Hid (aG = W1.heap.size) := haG
    clear hV1 haG
    replace ha := ha.below bq
    replace hb := hb.below bq
    replace qA := qA.below bq
    replace qB := qB.below bq
    replace qR := qR.below bq
    replace bw := bw.trans (bq.mono (by omega))
    replace zw := Nat.le_trans zw bq.size
    clear bq
    have H_ha : Hid (RNum V1 (.agg #[.bool na, .slice ao al ac, .slice aO aL aC]) x L) := ha
    have H_hb : Hid (RNum V1 (.agg #[.bool nb, .slice bo bl bc, .slice bO bL bC]) y M) := hb
    have H_qA : Hid (QCell V1 (g + 1) na (.slice ao al ac) (.slice aO aL aC)) := qA
    have H_qB : Hid (QCell V1 (g + 1 + 1) nb (.slice bo bl bc) (.slice bO bL bC)) := qB
    have H_qR : Hid (QCell V1 (g + 1 + 1 + 1) false (.slice none 0 0) (.slice none 0 0)) := qR
    have H_qG : Hid (QCell V1 (aG) na (.slice ao al ac) (.slice aO aL aC)) := qG
    have H_bw : Hid (Below g w V1) := bw
    have H_zw : Hid (g + 1 + 1 + 1 + 1 ≤ V1.heap.size) := zw
    clear ha hb qA qB qR qG bw zw
    go_upto_region 2 with fail
    rw [← HV1.out, ← HaG.out]
    clear HV1 HaG cA0 cA1 cA2
    have ha := H_ha.out
    have hb := H_hb.out
    have qA := H_qA.out
    have qB := H_qB.out
    have qR := H_qR.out
    have qG := H_qG.out
    have bw := H_bw.out
    have zw := H_zw.out
    clear H_ha H_hb H_qA H_qB H_qR H_qG H_bw H_zw
    have CC : Hid _ := (by have h := c_rcmp ha hb (by omega); rw [HCQ.out] at h; exact h)
    obtain ⟨cA0, cA1, cA2⟩ := qA.cells
    obtain ⟨cB0, cB1, cB2⟩ := qB.cells
    have H_ha : Hid (RNum V1 (.agg #[.bool na, .slice ao al ac, .slice aO aL aC]) x L) := ha
    have H_hb : Hid (RNum V1 (.agg #[.bool nb, .slice bo bl bc, .slice bO bL bC]) y M) := hb
    have H_qA : Hid (QCell V1 (g + 1) na (.slice ao al ac) (.slice aO aL aC)) := qA
    have H_qB : Hid (QCell V1 (g + 1 + 1) nb (.slice bo bl bc) (.slice bO bL bC)) := qB
    have H_qR : Hid (QCell V1 (g + 1 + 1 + 1) false (.slice none 0 0) (.slice none 0 0)) := qR
    have H_qG : Hid (QCell V1 (aG) na (.slice ao al ac) (.slice aO aL aC)) := qG
    have H_bw : Hid (Below g w V1) := bw
    have H_zw : Hid (g + 1 + 1 + 1 + 1 ≤ V1.heap.size) := zw
    clear ha hb qA qB qR qG bw zw
    go_wp2_with fail
    refine Calls.mono CC.out ?_
    rintro e x2 ⟨rfl, b2⟩
    clear CC cA0 cA1 cA2 cB0 cB1 cB2
    have ha := H_ha.out
    have hb := H_hb.out
    have qA := H_qA.out
    have qB := H_qB.out
    have qR := H_qR.out
    have qG := H_qG.out
    have bw := H_bw.out
    have zw := H_zw.out
    clear H_ha H_hb H_qA H_qB H_qR H_qG H_bw H_zw
    replace ha := ha.below b2
    replace hb := hb.below b2
    replace qA := qA.below b2
    replace qB := qB.below b2
    replace qR := qR.below b2
    replace qG := qG.below b2
    replace bw := bw.trans (b2.mono (by omega))
    replace zw := Nat.le_trans zw b2.size
    clear b2
    have hge : g + 1 + 1 + 1 + 1 ≤ aG := lG
    have HS : Hid (QCell (((x2.setCell ⟨aG, 0, none⟩ (.bool nb)).setCell ⟨aG, 1, none⟩ (.slice bo bl bc)).setCell ⟨aG, 2, none⟩ (.slice bO bL bC)) (aG) nb (.slice bo bl bc) (.slice bO bL bC)) := qG.write _ _ _
    have HR2 : Hid (QCell (((x2.setCell ⟨aG, 0, none⟩ (.bool nb)).setCell ⟨aG, 1, none⟩ (.slice bo bl bc)).setCell ⟨aG, 2, none⟩ (.slice bO bL bC)) (g + 1 + 1 + 1) false (.slice none 0 0) (.slice none 0 0)) := ((qR.other (by omega) _ _).other (by omega) _ _).other (by omega) _ _
    have HB2 : Hid (RNum (((x2.setCell ⟨aG, 0, none⟩ (.bool nb)).setCell ⟨aG, 1, none⟩ (.slice bo bl bc)).setCell ⟨aG, 2, none⟩ (.slice bO bL bC)) (.agg #[.bool nb, .slice bo bl bc, .slice bO bL bC]) y M) := rnum_box hb qG _ _ _
    have HW2 : Hid (Below g w (((x2.setCell ⟨aG, 0, none⟩ (.bool nb)).setCell ⟨aG, 1, none⟩ (.slice bo bl bc)).setCell ⟨aG, 2, none⟩ (.slice bO bL bC))) := ((bw.setCell (p := ⟨aG, 0, none⟩) (by show g ≤ aG; omega) _).setCell (p := ⟨aG, 1, none⟩) (by show g ≤ aG; omega) _).setCell (p := ⟨aG, 2, none⟩) (by show g ≤ aG; omega) _
    have HZ2 : Hid (g + 1 + 1 + 1 + 1 ≤ (((x2.setCell ⟨aG, 0, none⟩ (.bool nb)).setCell ⟨aG, 1, none⟩ (.slice bo bl bc)).setCell ⟨aG, 2, none⟩ (.slice bO bL bC)).heap.size) := by show _ ≤ _; simpa [World.setCell] using zw
    obtain ⟨cB0, cB1, cB2⟩ := qB.cells
    obtain ⟨cG0, cG1, cG2⟩ := qG.cells
    have f0 := qG.thaw 0
    have f1 := qG.thaw 1
    have f2 := qG.thaw 2
    clear ha hb qA qB qR qG bw zw
    go_upto_region 4 with fail
    obtain ⟨wy, hwy⟩ : ∃ u, u = (((x2.setCell ⟨aG, 0, none⟩ (.bool nb)).setCell ⟨aG, 1, none⟩ (.slice bo bl bc)).setCell ⟨aG, 2, none⟩ (.slice bO bL bC)) := ⟨_, rfl⟩
    rw [← hwy] at HS HR2 HB2 HW2 HZ2 ⊢
    clear hwy f0 f1 f2 cB0 cB1 cB2 cG0 cG1 cG2
    have qG := HS.out
    have qR := HR2.out
    have hb := HB2.out
    have bw := HW2.out
    have zw := HZ2.out
    clear HS HR2 HB2 HW2 HZ2
    have rr := rrow_one hb
    have CC : Hid _ := c_rsum (some ⟨wy.heap.size, 0, none⟩) wy.heap.size 1 1 (fun _ => y) M (wy.alloc (.cells #[.bool nb, .slice bo bl bc, .slice bO bL bC] 27)) (fun _ => rfl) rr (by omega)
    clear rr
    have bq : Below wy.heap.size wy (wy.alloc (.cells #[.bool nb, .slice bo bl bc, .slice bO bL bC] 27)) := belowA _ _
    have HBQ : Hid (Below wy.heap.size wy (wy.alloc (.cells #[.bool nb, .slice bo bl bc, .slice bO bL bC] 27))) := bq
    clear bq
    obtain ⟨cG0, cG1, cG2⟩ := qG.cells
    have H_qG : Hid (QCell wy (aG) nb (.slice bo bl bc) (.slice bO bL bC)) := qG
    have H_qR : Hid (QCell wy (g + 1 + 1 + 1) false (.slice none 0 0) (.slice none 0 0)) := qR
    have H_hb : Hid (RNum wy (.agg #[.bool nb, .slice bo bl bc, .slice bO bL bC]) y M) := hb
    have H_bw : Hid (Below g w wy) := bw
    have H_zw : Hid (g + 1 + 1 + 1 + 1 ≤ wy.heap.size) := zw
    clear qG qR hb bw zw
    go_wp2_with fail
    refine Calls.mono CC.out ?_
    rintro e x9 ⟨v, rfl, hv, b9⟩
    clear CC cG0 cG1 cG2
    have qG := H_qG.out
    have qR := H_qR.out
    have hb := H_hb.out
    have bw := H_bw.out
    have zw := H_zw.out
    clear H_qG H_qR H_hb H_bw H_zw
    have b8 := bstep HBQ.out b9
    replace hv := hv.rehome (B' := g + 1 + 1 + 1 + 1) (Nat.le_trans zw HBQ.out.size)
    rw [show rsum (fun _ => y) 1 = y from Rat.zero_add _] at hv
    clear b9 HBQ
    replace qG := qG.below b8
    replace qR := qR.below b8
    replace hb := hb.below b8
    replace bw := bw.trans (b8.mono (by omega))
    replace zw := Nat.le_trans zw b8.size
    clear b8
    obtain ⟨nm, mo, ml, mc, mO, mL, mC, rfl⟩ := hv.seeV
    have HE : Hid (REnd w (y) (.returned (.agg #[.bool nm, .slice mo ml mc, .slice mO mL mC])) (((x9.setCell ⟨g + 1 + 1 + 1, 0, none⟩ (.bool nm)).setCell ⟨g + 1 + 1 + 1, 1, none⟩ (.slice mo ml mc)).setCell ⟨g + 1 + 1 + 1, 2, none⟩ (.slice mO mL mC))) := ROwn.doneR hv (by rw [← HG.out]; omega) (by omega) (by rw [← HG.out]; exact bw)
    have HW : Hid (QCell (((x9.setCell ⟨g + 1 + 1 + 1, 0, none⟩ (.bool nm)).setCell ⟨g + 1 + 1 + 1, 1, none⟩ (.slice mo ml mc)).setCell ⟨g + 1 + 1 + 1, 2, none⟩ (.slice mO mL mC)) (g + 1 + 1 + 1) nm (.slice mo ml mc) (.slice mO mL mC)) := qR.write _ _ _
    obtain ⟨cR0, cR1, cR2⟩ := qR.cells
    have f0 := qR.thaw 0
    have f1 := qR.thaw 1
    have f2 := qR.thaw 2
    clear qG qR hb hv bw zw
    go_wp2_with fail
    (try simp only [Exit.inBlock, Exit.then])
    exact bodyPost_ret (results_cell_row rfl _ _ (g + 1 + 1 + 1) 27 _ (0, 0) _ rfl HW.out Tryz.underlying27 rfl (by kernel_rfl)) rfl HE.out
  · obtain ⟨cq, hcq⟩ : ∃ c, c = cmpQ x y := ⟨_, rfl⟩
    have HCQ : Hid (cmpQ x y = cq) := hcq.symm
    have HMX : Hid (mxQ x y = x) := if_neg hc
    rw [← hcq] at hc
    rw [HMX.out]
    clear hcq
    obtain ⟨W1, hW1⟩ : ∃ W1, W1 = (((w.alloc (.cells #[] 33)).alloc (.cells #[.bool na, .slice ao al ac, .slice aO aL aC] 27)).alloc (.cells #[.bool nb, .slice bo bl bc, .slice bO bL bC] 27)).alloc (.cells #[.bool false, .slice none 0 0, .slice none 0 0] 27) := ⟨_, rfl⟩
    have qA : QCell W1 (w.heap.size + 1) na (.slice ao al ac) (.slice aO aL aC) := by rw [hW1]; exact (qcell_step (qcell_step (qcell_new _ (by simp))))
    have qB : QCell W1 (w.heap.size + 1 + 1) nb (.slice bo bl bc) (.slice bO bL bC) := by rw [hW1]; exact (qcell_step (qcell_new _ (by simp)))
    have qR : QCell W1 (w.heap.size + 1 + 1 + 1) false (.slice none 0 0) (.slice none 0 0) := by rw [hW1]; exact (qcell_new _ (by simp))
    have bw : Below w.heap.size w W1 := by rw [hW1]; exact bstep (bstep (bstep (belowA w _) (belowA _ _)) (belowA _ _)) (belowA _ _)
    have zw : w.heap.size + 1 + 1 + 1 + 1 ≤ W1.heap.size := by rw [hW1]; simp
    replace ha := ha.below bw
    replace hb := hb.below bw
    obtain ⟨g, hg⟩ : ∃ g, g = w.heap.size := ⟨_, rfl⟩
    rw [← hg] at qA qB qR bw zw
    have HW1 : Hid (W1 = (((w.alloc (.cells #[] 33)).alloc (.cells #[.bool na, .slice ao al ac, .slice aO aL aC] 27)).alloc (.cells #[.bool nb, .slice bo bl bc, .slice bO bL bC] 27)).alloc (.cells #[.bool false, .slice none 0 0, .slice none 0 0] 27)) := hW1
    have HG : Hid (g = w.heap.size) := hg
    clear hW1 hg
    have H_ha : Hid (RNum W1 (.agg #[.bool na, .slice ao al ac, .slice aO aL aC]) x L) := ha
    have H_hb : Hid (RNum W1 (.agg #[.bool nb, .slice bo bl bc, .slice bO bL bC]) y M) := hb
    have H_qA : Hid (QCell W1 (g + 1) na (.slice ao al ac) (.slice aO aL aC)) := qA
    have H_qB : Hid (QCell W1 (g + 1 + 1) nb (.slice bo bl bc) (.slice bO bL bC)) := qB
    have H_qR : Hid (QCell W1 (g + 1 + 1 + 1) false (.slice none 0 0) (.slice none 0 0)) := qR
    have H_bw : Hid (Below g w W1) := bw
    have H_zw : Hid (g + 1 + 1 + 1 + 1 ≤ W1.heap.size) := zw
    clear ha hb qA qB qR bw zw
    go_enter Tryz.func18, Tryz.ntmps18
    go_upto_region 1 with fail
    rw [← HW1.out, ← HG.out]
    clear HW1
    have ha := H_ha.out
    have hb := H_hb.out
    have qA := H_qA.out
    have qB := H_qB.out
    have qR := H_qR.out
    have bw := H_bw.out
    have zw := H_zw.out
    clear H_ha H_hb H_qA H_qB H_qR H_bw H_zw
    obtain ⟨cA0, cA1, cA2⟩ := qA.cells
    obtain ⟨V1, hV1⟩ : ∃ u, u = W1.alloc (.cells #[.bool na, .slice ao al ac, .slice aO aL aC] 27) := ⟨_, rfl⟩
    obtain ⟨aG, haG⟩ : ∃ s, s = W1.heap.size := ⟨_, rfl⟩
    have qG : QCell V1 (aG) na (.slice ao al ac) (.slice aO aL aC) := by rw [hV1]; exact qcell_new _ haG.symm
    have bq : Below W1.heap.size W1 V1 := by rw [hV1]; exact belowA _ _
    have lG : g + 1 + 1 + 1 + 1 ≤ aG := by rw [haG]; exact zw
    have HV1 : Hid (V1 = W1.alloc (.cells #[.bool na, .slice ao al ac, .slice aO aL aC] 27)) := hV1
    have HaG : Hid (aG = W1.heap.size) := haG
    clear hV1 haG
    replace ha := ha.below bq
    replace hb := hb.below bq
    replace qA := qA.below bq
    replace qB := qB.below bq
    replace qR := qR.below bq
    replace bw := bw.trans (bq.mono (by omega))
    replace zw := Nat.le_trans zw bq.size
    clear bq
    have H_ha : Hid (RNum V1 (.agg #[.bool na, .slice ao al ac, .slice aO aL aC]) x L) := ha
    have H_hb : Hid (RNum V1 (.agg #[.bool nb, .slice bo bl bc, .slice bO bL bC]) y M) := hb
    have H_qA : Hid (QCell V1 (g + 1) na (.slice ao al ac) (.slice aO aL aC)) := qA
    have H_qB : Hid (QCell V1 (g + 1 + 1) nb (.slice bo bl bc) (.slice bO bL bC)) := qB
    have H_qR : Hid (QCell V1 (g + 1 + 1 + 1) false (.slice none 0 0) (.slice none 0 0)) := qR
    have H_qG : Hid (QCell V1 (aG) na (.slice ao al ac) (.slice aO aL aC)) := qG
    have H_bw : Hid (Below g w V1) := bw
    have H_zw : Hid (g + 1 + 1 + 1 + 1 ≤ V1.heap.size) := zw
    clear ha hb qA qB qR qG bw zw
    go_upto_region 2 with fail
    rw [← HV1.out, ← HaG.out]
    clear HV1 HaG cA0 cA1 cA2
    have ha := H_ha.out
    have hb := H_hb.out
    have qA := H_qA.out
    have qB := H_qB.out
    have qR := H_qR.out
    have qG := H_qG.out
    have bw := H_bw.out
    have zw := H_zw.out
    clear H_ha H_hb H_qA H_qB H_qR H_qG H_bw H_zw
    have CC : Hid _ := (by have h := c_rcmp ha hb (by omega); rw [HCQ.out] at h; exact h)
    obtain ⟨cA0, cA1, cA2⟩ := qA.cells
    obtain ⟨cB0, cB1, cB2⟩ := qB.cells
    have H_ha : Hid (RNum V1 (.agg #[.bool na, .slice ao al ac, .slice aO aL aC]) x L) := ha
    have H_hb : Hid (RNum V1 (.agg #[.bool nb, .slice bo bl bc, .slice bO bL bC]) y M) := hb
    have H_qA : Hid (QCell V1 (g + 1) na (.slice ao al ac) (.slice aO aL aC)) := qA
    have H_qB : Hid (QCell V1 (g + 1 + 1) nb (.slice bo bl bc) (.slice bO bL bC)) := qB
    have H_qR : Hid (QCell V1 (g + 1 + 1 + 1) false (.slice none 0 0) (.slice none 0 0)) := qR
    have H_qG : Hid (QCell V1 (aG) na (.slice ao al ac) (.slice aO aL aC)) := qG
    have H_bw : Hid (Below g w V1) := bw
    have H_zw : Hid (g + 1 + 1 + 1 + 1 ≤ V1.heap.size) := zw
    clear ha hb qA qB qR qG bw zw
    go_wp2_with fail
    refine Calls.mono CC.out ?_
    rintro e x2 ⟨rfl, b2⟩
    clear CC cA0 cA1 cA2 cB0 cB1 cB2
    have ha := H_ha.out
    have hb := H_hb.out
    have qA := H_qA.out
    have qB := H_qB.out
    have qR := H_qR.out
    have qG := H_qG.out
    have bw := H_bw.out
    have zw := H_zw.out
    clear H_ha H_hb H_qA H_qB H_qR H_qG H_bw H_zw
    replace ha := ha.below b2
    replace hb := hb.below b2
    replace qA := qA.below b2
    replace qB := qB.below b2
    replace qR := qR.below b2
    replace qG := qG.below b2
    replace bw := bw.trans (b2.mono (by omega))
    replace zw := Nat.le_trans zw b2.size
    clear b2
    clear hb qB qA
    have rr := rrow_one ha
    have CC : Hid _ := c_rsum (some ⟨x2.heap.size, 0, none⟩) x2.heap.size 1 1 (fun _ => x) L (x2.alloc (.cells #[.bool na, .slice ao al ac, .slice aO aL aC] 27)) (fun _ => rfl) rr (by omega)
    clear rr
    have bq : Below x2.heap.size x2 (x2.alloc (.cells #[.bool na, .slice ao al ac, .slice aO aL aC] 27)) := belowA _ _
    have HBQ : Hid (Below x2.heap.size x2 (x2.alloc (.cells #[.bool na, .slice ao al ac, .slice aO aL aC] 27))) := bq
    clear bq
    obtain ⟨cG0, cG1, cG2⟩ := qG.cells
    have H_ha : Hid (RNum x2 (.agg #[.bool na, .slice ao al ac, .slice aO aL aC]) x L) := ha
    have H_qR : Hid (QCell x2 (g + 1 + 1 + 1) false (.slice none 0 0) (.slice none 0 0)) := qR
    have H_qG : Hid (QCell x2 (aG) na (.slice ao al ac) (.slice aO aL aC)) := qG
    have H_bw : Hid (Below g w x2) := bw
    have H_zw : Hid (g + 1 + 1 + 1 + 1 ≤ x2.heap.size) := zw
    clear ha qR qG bw zw
    go_wp2_with fail
    refine Calls.mono CC.out ?_
    rintro e x9 ⟨v, rfl, hv, b9⟩
    clear CC cG0 cG1 cG2
    have ha := H_ha.out
    have qR := H_qR.out
    have qG := H_qG.out
    have bw := H_bw.out
    have zw := H_zw.out
    clear H_ha H_qR H_qG H_bw H_zw
    have b8 := bstep HBQ.out b9
    replace hv := hv.rehome (B' := g + 1 + 1 + 1 + 1) (Nat.le_trans zw HBQ.out.size)
    rw [show rsum (fun _ => x) 1 = x from Rat.zero_add _] at hv
    clear b9 HBQ
    replace ha := ha.below b8
    replace qR := qR.below b8
    replace qG := qG.below b8
    replace bw := bw.trans (b8.mono (by omega))
    replace zw := Nat.le_trans zw b8.size
    clear b8
    obtain ⟨nm, mo, ml, mc, mO, mL, mC, rfl⟩ := hv.seeV
    have HE : Hid (REnd w (x) (.returned (.agg #[.bool nm, .slice mo ml mc, .slice mO mL mC])) (((x9.setCell ⟨g + 1 + 1 + 1, 0, none⟩ (.bool nm)).setCell ⟨g + 1 + 1 + 1, 1, none⟩ (.slice mo ml mc)).setCell ⟨g + 1 + 1 + 1, 2, none⟩ (.slice mO mL mC))) := ROwn.doneR hv (by rw [← HG.out]; omega) (by omega) (by rw [← HG.out]; exact bw)
    have HW : Hid (QCell (((x9.setCell ⟨g + 1 + 1 + 1, 0, none⟩ (.bool nm)).setCell ⟨g + 1 + 1 + 1, 1, none⟩ (.slice mo ml mc)).setCell ⟨g + 1 + 1 + 1, 2, none⟩ (.slice mO mL mC)) (g + 1 + 1 + 1) nm (.slice mo ml mc) (.slice mO mL mC)) := qR.write _ _ _
    obtain ⟨cR0, cR1, cR2⟩ := qR.cells
    have f0 := qR.thaw 0
    have f1 := qR.thaw 1
    have f2 := qR.thaw 2
    clear ha qR qG hv bw zw
    go_wp2_with fail
    (try simp only [Exit.inBlock, Exit.then])
    exact bodyPost_ret (results_cell_row rfl _ _ (g + 1 + 1 + 1) 27 _ (0, 0) _ rfl HW.out Tryz.underlying27 rfl (by kernel_rfl)) rfl HE.out
set_option maxRecDepth 100000 in
set_option maxHeartbeats 6400000 in
theorem equalR {a b : Value} {x y : Rat} {w : World} (ha : RQ w a x) (hb : RQ w b y) : Calls Tryz.prog 25 #[a, b] w fun e w' => e = .returned (.bool (decide (cmpQ x y = 0))) ∧ Below w.heap.size w w' := by
  obtain ⟨na, ao, al, ac, aO, aL, aC, rfl⟩ := ha.see
  obtain ⟨nb, bo, bl, bc, bO, bL, bC, rfl⟩ := hb.see
  obtain ⟨cq, hcq⟩ : ∃ c, c = cmpQ x y := ⟨_, rfl⟩
  have HCQ : Hid (cmpQ x y = cq) := hcq.symm
  rw [← hcq]
  clear hcq
  obtain ⟨W1, hW1⟩ : ∃ W1, W1 = (w.alloc (.cells #[.bool na, .slice ao al ac, .slice aO aL aC] 27)).alloc (.cells #[.bool nb, .slice bo bl bc, .slice bO bL bC] 27) := ⟨_, rfl⟩
  have qA : QCell W1 (w.heap.size) na (.slice ao al ac) (.slice aO aL aC) := by rw [hW1]; exact (qcell_step (qcell_new _ rfl))
  have qB : QCell W1 (w.heap.size + 1) nb (.slice bo bl bc) (.slice bO bL bC) := by rw [hW1]; exact (qcell_new _ (by simp))
  have bw : Below w.heap.size w W1 := by rw [hW1]; exact bstep (belowA w _) (belowA _ _)
  have zw : w.heap.size + 1 + 1 ≤ W1.heap.size := by rw [hW1]; simp
  replace ha := ha.below bw
  replace hb := hb.below bw
  obtain ⟨g, hg⟩ : ∃ g, g = w.heap.size := ⟨_, rfl⟩
  rw [← hg] at qA qB bw zw
  have HW1 : Hid (W1 = (w.alloc (.cells #[.bool na, .slice ao al ac, .slice aO aL aC] 27)).alloc (.cells #[.bool nb, .slice bo bl bc, .slice bO bL bC] 27)) := hW1
  have HG : Hid (g = w.heap.size) := hg
  clear hW1 hg
  have H_ha : Hid (RQ W1 (.agg #[.bool na, .slice ao al ac, .slice aO aL aC]) x) := ha
  have H_hb : Hid (RQ W1 (.agg #[.bool nb, .slice bo bl bc, .slice bO bL bC]) y) := hb
  have H_qA : Hid (QCell W1 (g) na (.slice ao al ac) (.slice aO aL aC)) := qA
  have H_qB : Hid (QCell W1 (g + 1) nb (.slice bo bl bc) (.slice bO bL bC)) := qB
  have H_bw : Hid (Below g w W1) := bw
  have H_zw : Hid (g + 1 + 1 ≤ W1.heap.size) := zw
  clear ha hb qA qB bw zw
  go_enter Tryz.func25, Tryz.ntmps25
  go_upto_region 1 with fail
  rw [← HW1.out, ← HG.out]
  clear HW1
  have ha := H_ha.out
  have hb := H_hb.out
  have qA := H_qA.out
  have qB := H_qB.out
  have bw := H_bw.out
  have zw := H_zw.out
  clear H_ha H_hb H_qA H_qB H_bw H_zw
  have CC : Hid _ := (by have h := qCmp ha hb; rw [HCQ.out] at h; exact h)
  obtain ⟨cA0, cA1, cA2⟩ := qA.cells
  obtain ⟨cB0, cB1, cB2⟩ := qB.cells
  have H_ha : Hid (RQ W1 (.agg #[.bool na, .slice ao al ac, .slice aO aL aC]) x) := ha
  have H_hb : Hid (RQ W1 (.agg #[.bool nb, .slice bo bl bc, .slice bO bL bC]) y) := hb
  have H_qA : Hid (QCell W1 (g) na (.slice ao al ac) (.slice aO aL aC)) := qA
  have H_qB : Hid (QCell W1 (g + 1) nb (.slice bo bl bc) (.slice bO bL bC)) := qB
  have H_bw : Hid (Below g w W1) := bw
  have H_zw : Hid (g + 1 + 1 ≤ W1.heap.size) := zw
  clear ha hb qA qB bw zw
  go_wp2_with fail
  refine Calls.mono CC.out ?_
  rintro e x1 ⟨rfl, b1⟩
  clear CC cA0 cA1 cA2 cB0 cB1 cB2
  have ha := H_ha.out
  have hb := H_hb.out
  have qA := H_qA.out
  have qB := H_qB.out
  have bw := H_bw.out
  have zw := H_zw.out
  clear H_ha H_hb H_qA H_qB H_bw H_zw
  replace ha := ha.below b1
  replace hb := hb.below b1
  replace qA := qA.below b1
  replace qB := qB.below b1
  replace bw := bw.trans (b1.mono (by omega))
  replace zw := Nat.le_trans zw b1.size
  clear b1
  have HE : Hid (Below w.heap.size w x1) := by rw [← HG.out]; exact bw
  clear ha hb qA qB bw zw
  go_wp2
  go_ret
  exact ⟨by first | rfl | simp, HE.out⟩
end Go.Proofs.YtaafijifiiiblaaGreat
