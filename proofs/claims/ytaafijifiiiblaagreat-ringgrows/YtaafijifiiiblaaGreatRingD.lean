/-
  Proved here: the document's examples of layer 12: awake answers yes.
-/
import Derived.Test.YtaafijifiiiblaaGreatRingC
namespace Go.Proofs.YtaafijifiiiblaaGreat
open Go.RowKit
def xs2 (x y : Rat) (i : Nat) : Rat := if i = 0 then x else y
theorem rrow_two {w : World} {n n2 : Bool} {ao bo co eo : Option Addr} {al ac bl bc cl cc el ec : Nat} {x y : Rat} {L : Nat} (h : RNum w (.agg #[.bool n, .slice ao al ac, .slice bo bl bc]) x L) (h2 : RNum w (.agg #[.bool n2, .slice co cl cc, .slice eo el ec]) y L) :
    RRow (w.alloc (.cells #[.bool n, .slice ao al ac, .slice bo bl bc, .bool n2, .slice co cl cc, .slice eo el ec] 27)) w.heap.size 2 (xs2 x y) L := by
  have q : (w.alloc (.cells #[.bool n, .slice ao al ac, .slice bo bl bc, .bool n2, .slice co cl cc, .slice eo el ec] 27)).heap[w.heap.size]? = some (.cells #[.bool n, .slice ao al ac, .slice bo bl bc, .bool n2, .slice co cl cc, .slice eo el ec] 27 (0, 0)) := heap_alloc_new w _
  have c := fun k => cell_of_row _ w.heap.size k _ _ _ q
  intro i hi
  match i, hi with
  | 0, _ => exact ⟨_, _, _, _, _, _, _, by rw [c]; rfl, by rw [c]; rfl, by rw [c]; rfl, h.below (belowA _ _)⟩
  | 1, _ => exact ⟨_, _, _, _, _, _, _, by rw [c]; rfl, by rw [c]; rfl, by rw [c]; rfl, h2.below (belowA _ _)⟩
theorem sz1 {r : Rat} (h1 : r.num.natAbs < 4294967296) (h2 : r.den < 4294967296) : RSz r 1 := ⟨⟨by rw [Nat.pow_one]; exact h1⟩, ⟨by rw [Nat.pow_one]; exact h2⟩⟩
theorem fo_two {op : Rat → Rat → Rat} {z : Rat} {xs : Nat → Rat} (h0 : RSz z 1) (h1 : RSz (op z (xs 0)) 1) (h2 : RSz (op (op z (xs 0)) (xs 1)) 1) : ∀ i, i ≤ 2 → RSz (fo op z xs i) 1
  | 0, _ => h0
  | 1, _ => h1
  | 2, _ => h2
theorem fo_three {op : Rat → Rat → Rat} {z : Rat} {xs : Nat → Rat} (h0 : RSz z 1) (h1 : RSz (op z (xs 0)) 1) (h2 : RSz (op (op z (xs 0)) (xs 1)) 1) (h3 : RSz (op (op (op z (xs 0)) (xs 1)) (xs 2)) 1) : ∀ i, i ≤ 3 → RSz (fo op z xs i) 1
  | 0, _ => h0
  | 1, _ => h1
  | 2, _ => h2
  | 3, _ => h3
set_option maxRecDepth 1000000 in
set_option maxHeartbeats 32000000 in
theorem awake12 (w : World) : Calls Tryz.prog 9 #[] w fun e w' => e = .returned (.bool true) ∧ Below w.heap.size w w' := by
  obtain ⟨g, hg⟩ : ∃ g, g = w.heap.size := ⟨_, rfl⟩
  have bw : Below g w w := Below.refl _ _
  have zw : g ≤ w.heap.size := Nat.le_of_eq hg
  have HG : Hid (g = w.heap.size) := hg
  clear hg
  go_enter Tryz.func9, Tryz.ntmps9
  have CC : Hid _ := halfR (n := 1) (d := 2) (w := w) (by decide) (by decide) (by decide) (by decide) (by decide)
  have H_bw : Hid (Below g w w) := bw
  have H_zw : Hid (g ≤ w.heap.size) := zw
  clear bw zw
  go_wp2_with fail
  refine Calls.mono CC.out ?_
  rintro e x1 ⟨v, rfl, hp, b1⟩
  clear CC 
  have bw := H_bw.out
  have zw := H_zw.out
  clear H_bw H_zw
  replace hp := hp.rehome (B' := g) zw
  replace bw := bw.trans (b1.mono (by omega))
  replace zw := Nat.le_trans zw b1.size
  clear b1
  obtain ⟨np, po, pl, pc, pO, pL, pC, rfl⟩ := hp.seeV
  have CC : Hid _ := halfR (n := 1) (d := 3) (w := x1) (by decide) (by decide) (by decide) (by decide) (by decide)
  have H_hp : Hid (ROwn (g) x1 (.agg #[.bool np, .slice po pl pc, .slice pO pL pC]) ((Rat.divInt 1 2))) := hp
  have H_bw : Hid (Below g w x1) := bw
  have H_zw : Hid (g ≤ x1.heap.size) := zw
  clear hp bw zw
  go_wp2_with fail
  refine Calls.mono CC.out ?_
  rintro e x2 ⟨v, rfl, hq, b2⟩
  clear CC 
  have hp := H_hp.out
  have bw := H_bw.out
  have zw := H_zw.out
  clear H_hp H_bw H_zw
  replace hq := hq.rehome (B' := g) zw
  replace hp := hp.below b2
  replace bw := bw.trans (b2.mono (by omega))
  replace zw := Nat.le_trans zw b2.size
  clear b2
  obtain ⟨nq, qo, ql, qc, qO, qL, qC, rfl⟩ := hq.seeV
  have rr := rrow_two (hp.nm (L := 1) (sz1 (by decide +kernel) (by decide +kernel)) (by decide)) (hq.nm (L := 1) (sz1 (by decide +kernel) (by decide +kernel)) (by decide))
  have CC : Hid _ := sumRats (some ⟨x2.heap.size, 0, none⟩) x2.heap.size 2 2 (xs2 (Rat.divInt 1 2) (Rat.divInt 1 3)) 1 1 (x2.alloc (.cells #[.bool np, .slice po pl pc, .slice pO pL pC, .bool nq, .slice qo ql qc, .slice qO qL qC] 27)) (fun _ => rfl) rr (fo_two (sz1 (by decide +kernel) (by decide +kernel)) (sz1 (by decide +kernel) (by decide +kernel)) (sz1 (by decide +kernel) (by decide +kernel))) (by decide) (by decide)
  clear rr
  have HBQ : Hid (Below x2.heap.size x2 (x2.alloc (.cells #[.bool np, .slice po pl pc, .slice pO pL pC, .bool nq, .slice qo ql qc, .slice qO qL qC] 27))) := belowA _ _
  have H_hp : Hid (ROwn (g) x2 (.agg #[.bool np, .slice po pl pc, .slice pO pL pC]) ((Rat.divInt 1 2))) := hp
  have H_hq : Hid (ROwn (g) x2 (.agg #[.bool nq, .slice qo ql qc, .slice qO qL qC]) ((Rat.divInt 1 3))) := hq
  have H_bw : Hid (Below g w x2) := bw
  have H_zw : Hid (g ≤ x2.heap.size) := zw
  clear hp hq bw zw
  go_wp2_with fail
  refine Calls.mono CC.out ?_
  rintro e x3 ⟨v, rfl, hjd, b9⟩
  clear CC
  have hp := H_hp.out
  have hq := H_hq.out
  have bw := H_bw.out
  have zw := H_zw.out
  clear H_hp H_hq H_bw H_zw
  have b8 := bstep HBQ.out b9
  replace hjd := hjd.rehome (B' := g) (Nat.le_trans zw HBQ.out.size)
  rw [show fo adQ 0 (xs2 (Rat.divInt 1 2) (Rat.divInt 1 3)) 2 = (Rat.divInt 5 6) by decide +kernel] at hjd
  clear b9 HBQ
  replace hp := hp.below b8
  replace hq := hq.below b8
  replace bw := bw.trans (b8.mono (by omega))
  replace zw := Nat.le_trans zw b8.size
  clear b8
  obtain ⟨njd, jdo, jdl, jdc, jdO, jdL, jdC, rfl⟩ := hjd.seeV
  clear hp hq
  obtain ⟨V4, hV4⟩ : ∃ u, u = x3.alloc (.cells #[.bool njd, .slice jdo jdl jdc, .slice jdO jdL jdC] 27) := ⟨_, rfl⟩
  obtain ⟨ajd, hajd⟩ : ∃ s, s = x3.heap.size := ⟨_, rfl⟩
  have qjd : QCell V4 (ajd) njd (.slice jdo jdl jdc) (.slice jdO jdL jdC) := by rw [hV4]; exact qcell_new _ hajd.symm
  have bq : Below x3.heap.size x3 V4 := by rw [hV4]; exact belowA _ _
  have ljd : g ≤ ajd := by rw [hajd]; exact zw
  have HV4 : Hid (V4 = x3.alloc (.cells #[.bool njd, .slice jdo jdl jdc, .slice jdO jdL jdC] 27)) := hV4
  have Hajd : Hid (ajd = x3.heap.size) := hajd
  clear hV4 hajd
  replace hjd := hjd.below bq
  replace bw := bw.trans (bq.mono (by omega))
  replace zw := Nat.le_trans zw bq.size
  clear bq
  have H_hjd : Hid (ROwn (g) V4 (.agg #[.bool njd, .slice jdo jdl jdc, .slice jdO jdL jdC]) ((Rat.divInt 5 6))) := hjd
  have H_qjd : Hid (QCell V4 (ajd) njd (.slice jdo jdl jdc) (.slice jdO jdL jdC)) := qjd
  have H_bw : Hid (Below g w V4) := bw
  have H_zw : Hid (g ≤ V4.heap.size) := zw
  clear hjd qjd bw zw
  go_upto_region 2 with fail
  rw [← HV4.out, ← Hajd.out]
  clear HV4 Hajd
  have hjd := H_hjd.out
  have qjd := H_qjd.out
  have bw := H_bw.out
  have zw := H_zw.out
  clear H_hjd H_qjd H_bw H_zw
  have CC : Hid _ := halfR (n := 1) (d := 2) (w := V4) (by decide) (by decide) (by decide) (by decide) (by decide)
  have H_hjd : Hid (ROwn (g) V4 (.agg #[.bool njd, .slice jdo jdl jdc, .slice jdO jdL jdC]) ((Rat.divInt 5 6))) := hjd
  have H_qjd : Hid (QCell V4 (ajd) njd (.slice jdo jdl jdc) (.slice jdO jdL jdC)) := qjd
  have H_bw : Hid (Below g w V4) := bw
  have H_zw : Hid (g ≤ V4.heap.size) := zw
  clear hjd qjd bw zw
  go_wp2_with fail
  refine Calls.mono CC.out ?_
  rintro e x5 ⟨v, rfl, hp, b5⟩
  clear CC 
  have hjd := H_hjd.out
  have qjd := H_qjd.out
  have bw := H_bw.out
  have zw := H_zw.out
  clear H_hjd H_qjd H_bw H_zw
  replace hp := hp.rehome (B' := g) zw
  replace hjd := hjd.below b5
  replace qjd := qjd.below b5
  replace bw := bw.trans (b5.mono (by omega))
  replace zw := Nat.le_trans zw b5.size
  clear b5
  obtain ⟨np, po, pl, pc, pO, pL, pC, rfl⟩ := hp.seeV
  have CC : Hid _ := halfR (n := 1) (d := 3) (w := x5) (by decide) (by decide) (by decide) (by decide) (by decide)
  have H_hjd : Hid (ROwn (g) x5 (.agg #[.bool njd, .slice jdo jdl jdc, .slice jdO jdL jdC]) ((Rat.divInt 5 6))) := hjd
  have H_qjd : Hid (QCell x5 (ajd) njd (.slice jdo jdl jdc) (.slice jdO jdL jdC)) := qjd
  have H_hp : Hid (ROwn (g) x5 (.agg #[.bool np, .slice po pl pc, .slice pO pL pC]) ((Rat.divInt 1 2))) := hp
  have H_bw : Hid (Below g w x5) := bw
  have H_zw : Hid (g ≤ x5.heap.size) := zw
  clear hjd qjd hp bw zw
  go_wp2_with fail
  refine Calls.mono CC.out ?_
  rintro e x6 ⟨v, rfl, hq, b6⟩
  clear CC 
  have hjd := H_hjd.out
  have qjd := H_qjd.out
  have hp := H_hp.out
  have bw := H_bw.out
  have zw := H_zw.out
  clear H_hjd H_qjd H_hp H_bw H_zw
  replace hq := hq.rehome (B' := g) zw
  replace hjd := hjd.below b6
  replace qjd := qjd.below b6
  replace hp := hp.below b6
  replace bw := bw.trans (b6.mono (by omega))
  replace zw := Nat.le_trans zw b6.size
  clear b6
  obtain ⟨nq, qo, ql, qc, qO, qL, qC, rfl⟩ := hq.seeV
  have rr := rrow_two (hp.nm (L := 1) (sz1 (by decide +kernel) (by decide +kernel)) (by decide)) (hq.nm (L := 1) (sz1 (by decide +kernel) (by decide +kernel)) (by decide))
  have CC : Hid _ := sumMost (some ⟨x6.heap.size, 0, none⟩) x6.heap.size 2 2 (xs2 (Rat.divInt 1 2) (Rat.divInt 1 3)) 1 1 (x6.alloc (.cells #[.bool np, .slice po pl pc, .slice pO pL pC, .bool nq, .slice qo ql qc, .slice qO qL qC] 27)) (fun _ => rfl) rr (fo_two (sz1 (by decide +kernel) (by decide +kernel)) (sz1 (by decide +kernel) (by decide +kernel)) (sz1 (by decide +kernel) (by decide +kernel))) (by decide) (by decide)
  clear rr
  have HBQ : Hid (Below x6.heap.size x6 (x6.alloc (.cells #[.bool np, .slice po pl pc, .slice pO pL pC, .bool nq, .slice qo ql qc, .slice qO qL qC] 27))) := belowA _ _
  have H_hjd : Hid (ROwn (g) x6 (.agg #[.bool njd, .slice jdo jdl jdc, .slice jdO jdL jdC]) ((Rat.divInt 5 6))) := hjd
  have H_qjd : Hid (QCell x6 (ajd) njd (.slice jdo jdl jdc) (.slice jdO jdL jdC)) := qjd
  have H_hp : Hid (ROwn (g) x6 (.agg #[.bool np, .slice po pl pc, .slice pO pL pC]) ((Rat.divInt 1 2))) := hp
  have H_hq : Hid (ROwn (g) x6 (.agg #[.bool nq, .slice qo ql qc, .slice qO qL qC]) ((Rat.divInt 1 3))) := hq
  have H_bw : Hid (Below g w x6) := bw
  have H_zw : Hid (g ≤ x6.heap.size) := zw
  clear hjd qjd hp hq bw zw
  go_wp2_with fail
  refine Calls.mono CC.out ?_
  rintro e x7 ⟨v, rfl, hjf, b9⟩
  clear CC
  have hjd := H_hjd.out
  have qjd := H_qjd.out
  have hp := H_hp.out
  have hq := H_hq.out
  have bw := H_bw.out
  have zw := H_zw.out
  clear H_hjd H_qjd H_hp H_hq H_bw H_zw
  have b8 := bstep HBQ.out b9
  replace hjf := hjf.rehome (B' := g) (Nat.le_trans zw HBQ.out.size)
  rw [show fo mxQ 0 (xs2 (Rat.divInt 1 2) (Rat.divInt 1 3)) 2 = (Rat.divInt 1 2) by decide +kernel] at hjf
  clear b9 HBQ
  replace hjd := hjd.below b8
  replace qjd := qjd.below b8
  replace hp := hp.below b8
  replace hq := hq.below b8
  replace bw := bw.trans (b8.mono (by omega))
  replace zw := Nat.le_trans zw b8.size
  clear b8
  obtain ⟨njf, jfo, jfl, jfc, jfO, jfL, jfC, rfl⟩ := hjf.seeV
  clear hp hq
  obtain ⟨V8, hV8⟩ : ∃ u, u = x7.alloc (.cells #[.bool njf, .slice jfo jfl jfc, .slice jfO jfL jfC] 27) := ⟨_, rfl⟩
  obtain ⟨ajf, hajf⟩ : ∃ s, s = x7.heap.size := ⟨_, rfl⟩
  have qjf : QCell V8 (ajf) njf (.slice jfo jfl jfc) (.slice jfO jfL jfC) := by rw [hV8]; exact qcell_new _ hajf.symm
  have bq : Below x7.heap.size x7 V8 := by rw [hV8]; exact belowA _ _
  have ljf : g ≤ ajf := by rw [hajf]; exact zw
  have HV8 : Hid (V8 = x7.alloc (.cells #[.bool njf, .slice jfo jfl jfc, .slice jfO jfL jfC] 27)) := hV8
  have Hajf : Hid (ajf = x7.heap.size) := hajf
  clear hV8 hajf
  replace hjd := hjd.below bq
  replace qjd := qjd.below bq
  replace hjf := hjf.below bq
  replace bw := bw.trans (bq.mono (by omega))
  replace zw := Nat.le_trans zw bq.size
  clear bq
  have H_hjd : Hid (ROwn (g) V8 (.agg #[.bool njd, .slice jdo jdl jdc, .slice jdO jdL jdC]) ((Rat.divInt 5 6))) := hjd
  have H_qjd : Hid (QCell V8 (ajd) njd (.slice jdo jdl jdc) (.slice jdO jdL jdC)) := qjd
  have H_hjf : Hid (ROwn (g) V8 (.agg #[.bool njf, .slice jfo jfl jfc, .slice jfO jfL jfC]) ((Rat.divInt 1 2))) := hjf
  have H_qjf : Hid (QCell V8 (ajf) njf (.slice jfo jfl jfc) (.slice jfO jfL jfC)) := qjf
  have H_bw : Hid (Below g w V8) := bw
  have H_zw : Hid (g ≤ V8.heap.size) := zw
  clear hjd qjd hjf qjf bw zw
  go_upto_region 3 with fail
  rw [← HV8.out, ← Hajf.out]
  clear HV8 Hajf
  have hjd := H_hjd.out
  have qjd := H_qjd.out
  have hjf := H_hjf.out
  have qjf := H_qjf.out
  have bw := H_bw.out
  have zw := H_zw.out
  clear H_hjd H_qjd H_hjf H_qjf H_bw H_zw
  have CC : Hid _ := halfR (n := 2) (d := 3) (w := V8) (by decide) (by decide) (by decide) (by decide) (by decide)
  have H_hjd : Hid (ROwn (g) V8 (.agg #[.bool njd, .slice jdo jdl jdc, .slice jdO jdL jdC]) ((Rat.divInt 5 6))) := hjd
  have H_qjd : Hid (QCell V8 (ajd) njd (.slice jdo jdl jdc) (.slice jdO jdL jdC)) := qjd
  have H_hjf : Hid (ROwn (g) V8 (.agg #[.bool njf, .slice jfo jfl jfc, .slice jfO jfL jfC]) ((Rat.divInt 1 2))) := hjf
  have H_qjf : Hid (QCell V8 (ajf) njf (.slice jfo jfl jfc) (.slice jfO jfL jfC)) := qjf
  have H_bw : Hid (Below g w V8) := bw
  have H_zw : Hid (g ≤ V8.heap.size) := zw
  clear hjd qjd hjf qjf bw zw
  go_wp2_with fail
  refine Calls.mono CC.out ?_
  rintro e x9 ⟨v, rfl, hp, b9⟩
  clear CC 
  have hjd := H_hjd.out
  have qjd := H_qjd.out
  have hjf := H_hjf.out
  have qjf := H_qjf.out
  have bw := H_bw.out
  have zw := H_zw.out
  clear H_hjd H_qjd H_hjf H_qjf H_bw H_zw
  replace hp := hp.rehome (B' := g) zw
  replace hjd := hjd.below b9
  replace qjd := qjd.below b9
  replace hjf := hjf.below b9
  replace qjf := qjf.below b9
  replace bw := bw.trans (b9.mono (by omega))
  replace zw := Nat.le_trans zw b9.size
  clear b9
  obtain ⟨np, po, pl, pc, pO, pL, pC, rfl⟩ := hp.seeV
  have CC : Hid _ := powRats 3 1 1 x9 (hp.nm (L := 1) (sz1 (by decide +kernel) (by decide +kernel)) (by decide)) (fo_three (sz1 (by decide +kernel) (by decide +kernel)) (sz1 (by decide +kernel) (by decide +kernel)) (sz1 (by decide +kernel) (by decide +kernel)) (sz1 (by decide +kernel) (by decide +kernel))) (by decide) (by decide)
  have H_hjd : Hid (ROwn (g) x9 (.agg #[.bool njd, .slice jdo jdl jdc, .slice jdO jdL jdC]) ((Rat.divInt 5 6))) := hjd
  have H_qjd : Hid (QCell x9 (ajd) njd (.slice jdo jdl jdc) (.slice jdO jdL jdC)) := qjd
  have H_hjf : Hid (ROwn (g) x9 (.agg #[.bool njf, .slice jfo jfl jfc, .slice jfO jfL jfC]) ((Rat.divInt 1 2))) := hjf
  have H_qjf : Hid (QCell x9 (ajf) njf (.slice jfo jfl jfc) (.slice jfO jfL jfC)) := qjf
  have H_hp : Hid (ROwn (g) x9 (.agg #[.bool np, .slice po pl pc, .slice pO pL pC]) ((Rat.divInt 2 3))) := hp
  have H_bw : Hid (Below g w x9) := bw
  have H_zw : Hid (g ≤ x9.heap.size) := zw
  clear hjd qjd hjf qjf hp bw zw
  go_wp2_with fail
  refine Calls.mono CC.out ?_
  rintro e x10 ⟨v, rfl, hjh, b10⟩
  clear CC 
  have hjd := H_hjd.out
  have qjd := H_qjd.out
  have hjf := H_hjf.out
  have qjf := H_qjf.out
  have hp := H_hp.out
  have bw := H_bw.out
  have zw := H_zw.out
  clear H_hjd H_qjd H_hjf H_qjf H_hp H_bw H_zw
  replace hjh := hjh.rehome (B' := g) zw
  rw [show fo muQ 1 (fun _ => (Rat.divInt 2 3)) 3 = (Rat.divInt 8 27) by decide +kernel] at hjh
  replace hjd := hjd.below b10
  replace qjd := qjd.below b10
  replace hjf := hjf.below b10
  replace qjf := qjf.below b10
  replace hp := hp.below b10
  replace bw := bw.trans (b10.mono (by omega))
  replace zw := Nat.le_trans zw b10.size
  clear b10
  obtain ⟨njh, jho, jhl, jhc, jhO, jhL, jhC, rfl⟩ := hjh.seeV
  clear hp
  obtain ⟨V11, hV11⟩ : ∃ u, u = x10.alloc (.cells #[.bool njh, .slice jho jhl jhc, .slice jhO jhL jhC] 27) := ⟨_, rfl⟩
  obtain ⟨ajh, hajh⟩ : ∃ s, s = x10.heap.size := ⟨_, rfl⟩
  have qjh : QCell V11 (ajh) njh (.slice jho jhl jhc) (.slice jhO jhL jhC) := by rw [hV11]; exact qcell_new _ hajh.symm
  have bq : Below x10.heap.size x10 V11 := by rw [hV11]; exact belowA _ _
  have ljh : g ≤ ajh := by rw [hajh]; exact zw
  have HV11 : Hid (V11 = x10.alloc (.cells #[.bool njh, .slice jho jhl jhc, .slice jhO jhL jhC] 27)) := hV11
  have Hajh : Hid (ajh = x10.heap.size) := hajh
  clear hV11 hajh
  replace hjd := hjd.below bq
  replace qjd := qjd.below bq
  replace hjf := hjf.below bq
  replace qjf := qjf.below bq
  replace hjh := hjh.below bq
  replace bw := bw.trans (bq.mono (by omega))
  replace zw := Nat.le_trans zw bq.size
  clear bq
  have H_hjd : Hid (ROwn (g) V11 (.agg #[.bool njd, .slice jdo jdl jdc, .slice jdO jdL jdC]) ((Rat.divInt 5 6))) := hjd
  have H_qjd : Hid (QCell V11 (ajd) njd (.slice jdo jdl jdc) (.slice jdO jdL jdC)) := qjd
  have H_hjf : Hid (ROwn (g) V11 (.agg #[.bool njf, .slice jfo jfl jfc, .slice jfO jfL jfC]) ((Rat.divInt 1 2))) := hjf
  have H_qjf : Hid (QCell V11 (ajf) njf (.slice jfo jfl jfc) (.slice jfO jfL jfC)) := qjf
  have H_hjh : Hid (ROwn (g) V11 (.agg #[.bool njh, .slice jho jhl jhc, .slice jhO jhL jhC]) ((Rat.divInt 8 27))) := hjh
  have H_qjh : Hid (QCell V11 (ajh) njh (.slice jho jhl jhc) (.slice jhO jhL jhC)) := qjh
  have H_bw : Hid (Below g w V11) := bw
  have H_zw : Hid (g ≤ V11.heap.size) := zw
  clear hjd qjd hjf qjf hjh qjh bw zw
  go_upto_region 4 with fail
  rw [← HV11.out, ← Hajh.out]
  clear HV11 Hajh
  have hjd := H_hjd.out
  have qjd := H_qjd.out
  have hjf := H_hjf.out
  have qjf := H_qjf.out
  have hjh := H_hjh.out
  have qjh := H_qjh.out
  have bw := H_bw.out
  have zw := H_zw.out
  clear H_hjd H_qjd H_hjf H_qjf H_hjh H_qjh H_bw H_zw
  have CC : Hid _ := halfR (n := 2) (d := 3) (w := V11) (by decide) (by decide) (by decide) (by decide) (by decide)
  have H_hjd : Hid (ROwn (g) V11 (.agg #[.bool njd, .slice jdo jdl jdc, .slice jdO jdL jdC]) ((Rat.divInt 5 6))) := hjd
  have H_qjd : Hid (QCell V11 (ajd) njd (.slice jdo jdl jdc) (.slice jdO jdL jdC)) := qjd
  have H_hjf : Hid (ROwn (g) V11 (.agg #[.bool njf, .slice jfo jfl jfc, .slice jfO jfL jfC]) ((Rat.divInt 1 2))) := hjf
  have H_qjf : Hid (QCell V11 (ajf) njf (.slice jfo jfl jfc) (.slice jfO jfL jfC)) := qjf
  have H_hjh : Hid (ROwn (g) V11 (.agg #[.bool njh, .slice jho jhl jhc, .slice jhO jhL jhC]) ((Rat.divInt 8 27))) := hjh
  have H_qjh : Hid (QCell V11 (ajh) njh (.slice jho jhl jhc) (.slice jhO jhL jhC)) := qjh
  have H_bw : Hid (Below g w V11) := bw
  have H_zw : Hid (g ≤ V11.heap.size) := zw
  clear hjd qjd hjf qjf hjh qjh bw zw
  go_wp2_with fail
  refine Calls.mono CC.out ?_
  rintro e x12 ⟨v, rfl, hp, b12⟩
  clear CC 
  have hjd := H_hjd.out
  have qjd := H_qjd.out
  have hjf := H_hjf.out
  have qjf := H_qjf.out
  have hjh := H_hjh.out
  have qjh := H_qjh.out
  have bw := H_bw.out
  have zw := H_zw.out
  clear H_hjd H_qjd H_hjf H_qjf H_hjh H_qjh H_bw H_zw
  replace hp := hp.rehome (B' := g) zw
  replace hjd := hjd.below b12
  replace qjd := qjd.below b12
  replace hjf := hjf.below b12
  replace qjf := qjf.below b12
  replace hjh := hjh.below b12
  replace qjh := qjh.below b12
  replace bw := bw.trans (b12.mono (by omega))
  replace zw := Nat.le_trans zw b12.size
  clear b12
  obtain ⟨np, po, pl, pc, pO, pL, pC, rfl⟩ := hp.seeV
  have CC : Hid _ := powNil (-1) 1 x12 (hp.nm (L := 1) (sz1 (by decide +kernel) (by decide +kernel)) (by decide))
  have H_hjd : Hid (ROwn (g) x12 (.agg #[.bool njd, .slice jdo jdl jdc, .slice jdO jdL jdC]) ((Rat.divInt 5 6))) := hjd
  have H_qjd : Hid (QCell x12 (ajd) njd (.slice jdo jdl jdc) (.slice jdO jdL jdC)) := qjd
  have H_hjf : Hid (ROwn (g) x12 (.agg #[.bool njf, .slice jfo jfl jfc, .slice jfO jfL jfC]) ((Rat.divInt 1 2))) := hjf
  have H_qjf : Hid (QCell x12 (ajf) njf (.slice jfo jfl jfc) (.slice jfO jfL jfC)) := qjf
  have H_hjh : Hid (ROwn (g) x12 (.agg #[.bool njh, .slice jho jhl jhc, .slice jhO jhL jhC]) ((Rat.divInt 8 27))) := hjh
  have H_qjh : Hid (QCell x12 (ajh) njh (.slice jho jhl jhc) (.slice jhO jhL jhC)) := qjh
  have H_hp : Hid (ROwn (g) x12 (.agg #[.bool np, .slice po pl pc, .slice pO pL pC]) ((Rat.divInt 2 3))) := hp
  have H_bw : Hid (Below g w x12) := bw
  have H_zw : Hid (g ≤ x12.heap.size) := zw
  clear hjd qjd hjf qjf hjh qjh hp bw zw
  go_wp2_with fail
  refine Calls.mono CC.out ?_
  rintro e x13 ⟨rfl, b13⟩
  clear CC 
  have hjd := H_hjd.out
  have qjd := H_qjd.out
  have hjf := H_hjf.out
  have qjf := H_qjf.out
  have hjh := H_hjh.out
  have qjh := H_qjh.out
  have hp := H_hp.out
  have bw := H_bw.out
  have zw := H_zw.out
  clear H_hjd H_qjd H_hjf H_qjf H_hjh H_qjh H_hp H_bw H_zw
  replace hjd := hjd.below b13
  replace qjd := qjd.below b13
  replace hjf := hjf.below b13
  replace qjf := qjf.below b13
  replace hjh := hjh.below b13
  replace qjh := qjh.below b13
  replace hp := hp.below b13
  replace bw := bw.trans (b13.mono (by omega))
  replace zw := Nat.le_trans zw b13.size
  clear b13
  clear hp
  obtain ⟨V14, hV14⟩ : ∃ u, u = x13.alloc (.cells #[.bool false, .slice none 0 0, .slice none 0 0] 27) := ⟨_, rfl⟩
  obtain ⟨aji, haji⟩ : ∃ s, s = x13.heap.size := ⟨_, rfl⟩
  have qji : QCell V14 (aji) false (.slice none 0 0) (.slice none 0 0) := by rw [hV14]; exact qcell_new _ haji.symm
  have bq : Below x13.heap.size x13 V14 := by rw [hV14]; exact belowA _ _
  have lji : g ≤ aji := by rw [haji]; exact zw
  have HV14 : Hid (V14 = x13.alloc (.cells #[.bool false, .slice none 0 0, .slice none 0 0] 27)) := hV14
  have Haji : Hid (aji = x13.heap.size) := haji
  clear hV14 haji
  replace hjd := hjd.below bq
  replace qjd := qjd.below bq
  replace hjf := hjf.below bq
  replace qjf := qjf.below bq
  replace hjh := hjh.below bq
  replace qjh := qjh.below bq
  replace bw := bw.trans (bq.mono (by omega))
  replace zw := Nat.le_trans zw bq.size
  clear bq
  have H_hjd : Hid (ROwn (g) V14 (.agg #[.bool njd, .slice jdo jdl jdc, .slice jdO jdL jdC]) ((Rat.divInt 5 6))) := hjd
  have H_qjd : Hid (QCell V14 (ajd) njd (.slice jdo jdl jdc) (.slice jdO jdL jdC)) := qjd
  have H_hjf : Hid (ROwn (g) V14 (.agg #[.bool njf, .slice jfo jfl jfc, .slice jfO jfL jfC]) ((Rat.divInt 1 2))) := hjf
  have H_qjf : Hid (QCell V14 (ajf) njf (.slice jfo jfl jfc) (.slice jfO jfL jfC)) := qjf
  have H_hjh : Hid (ROwn (g) V14 (.agg #[.bool njh, .slice jho jhl jhc, .slice jhO jhL jhC]) ((Rat.divInt 8 27))) := hjh
  have H_qjh : Hid (QCell V14 (ajh) njh (.slice jho jhl jhc) (.slice jhO jhL jhC)) := qjh
  have H_qji : Hid (QCell V14 (aji) false (.slice none 0 0) (.slice none 0 0)) := qji
  have H_bw : Hid (Below g w V14) := bw
  have H_zw : Hid (g ≤ V14.heap.size) := zw
  clear hjd qjd hjf qjf hjh qjh qji bw zw
  go_upto_region 5 with fail
  rw [← HV14.out, ← Haji.out]
  clear HV14 Haji
  have hjd := H_hjd.out
  have qjd := H_qjd.out
  have hjf := H_hjf.out
  have qjf := H_qjf.out
  have hjh := H_hjh.out
  have qjh := H_qjh.out
  have qji := H_qji.out
  have bw := H_bw.out
  have zw := H_zw.out
  clear H_hjd H_qjd H_hjf H_qjf H_hjh H_qjh H_qji H_bw H_zw
  clear qji
  have CC : Hid _ := halfR (n := 3) (d := 1) (w := V14) (by decide) (by decide) (by decide) (by decide) (by decide)
  have H_hjd : Hid (ROwn (g) V14 (.agg #[.bool njd, .slice jdo jdl jdc, .slice jdO jdL jdC]) ((Rat.divInt 5 6))) := hjd
  have H_qjd : Hid (QCell V14 (ajd) njd (.slice jdo jdl jdc) (.slice jdO jdL jdC)) := qjd
  have H_hjf : Hid (ROwn (g) V14 (.agg #[.bool njf, .slice jfo jfl jfc, .slice jfO jfL jfC]) ((Rat.divInt 1 2))) := hjf
  have H_qjf : Hid (QCell V14 (ajf) njf (.slice jfo jfl jfc) (.slice jfO jfL jfC)) := qjf
  have H_hjh : Hid (ROwn (g) V14 (.agg #[.bool njh, .slice jho jhl jhc, .slice jhO jhL jhC]) ((Rat.divInt 8 27))) := hjh
  have H_qjh : Hid (QCell V14 (ajh) njh (.slice jho jhl jhc) (.slice jhO jhL jhC)) := qjh
  have H_bw : Hid (Below g w V14) := bw
  have H_zw : Hid (g ≤ V14.heap.size) := zw
  clear hjd qjd hjf qjf hjh qjh bw zw
  go_wp2_with fail
  refine Calls.mono CC.out ?_
  rintro e x15 ⟨v, rfl, hp, b15⟩
  clear CC 
  have hjd := H_hjd.out
  have qjd := H_qjd.out
  have hjf := H_hjf.out
  have qjf := H_qjf.out
  have hjh := H_hjh.out
  have qjh := H_qjh.out
  have bw := H_bw.out
  have zw := H_zw.out
  clear H_hjd H_qjd H_hjf H_qjf H_hjh H_qjh H_bw H_zw
  replace hp := hp.rehome (B' := g) zw
  replace hjd := hjd.below b15
  replace qjd := qjd.below b15
  replace hjf := hjf.below b15
  replace qjf := qjf.below b15
  replace hjh := hjh.below b15
  replace qjh := qjh.below b15
  replace bw := bw.trans (b15.mono (by omega))
  replace zw := Nat.le_trans zw b15.size
  clear b15
  obtain ⟨np, po, pl, pc, pO, pL, pC, rfl⟩ := hp.seeV
  have CC : Hid _ := halfR (n := 1) (d := 1) (w := x15) (by decide) (by decide) (by decide) (by decide) (by decide)
  have H_hjd : Hid (ROwn (g) x15 (.agg #[.bool njd, .slice jdo jdl jdc, .slice jdO jdL jdC]) ((Rat.divInt 5 6))) := hjd
  have H_qjd : Hid (QCell x15 (ajd) njd (.slice jdo jdl jdc) (.slice jdO jdL jdC)) := qjd
  have H_hjf : Hid (ROwn (g) x15 (.agg #[.bool njf, .slice jfo jfl jfc, .slice jfO jfL jfC]) ((Rat.divInt 1 2))) := hjf
  have H_qjf : Hid (QCell x15 (ajf) njf (.slice jfo jfl jfc) (.slice jfO jfL jfC)) := qjf
  have H_hjh : Hid (ROwn (g) x15 (.agg #[.bool njh, .slice jho jhl jhc, .slice jhO jhL jhC]) ((Rat.divInt 8 27))) := hjh
  have H_qjh : Hid (QCell x15 (ajh) njh (.slice jho jhl jhc) (.slice jhO jhL jhC)) := qjh
  have H_hp : Hid (ROwn (g) x15 (.agg #[.bool np, .slice po pl pc, .slice pO pL pC]) ((Rat.divInt 3 1))) := hp
  have H_bw : Hid (Below g w x15) := bw
  have H_zw : Hid (g ≤ x15.heap.size) := zw
  clear hjd qjd hjf qjf hjh qjh hp bw zw
  go_wp2_with fail
  refine Calls.mono CC.out ?_
  rintro e x16 ⟨v, rfl, hq, b16⟩
  clear CC 
  have hjd := H_hjd.out
  have qjd := H_qjd.out
  have hjf := H_hjf.out
  have qjf := H_qjf.out
  have hjh := H_hjh.out
  have qjh := H_qjh.out
  have hp := H_hp.out
  have bw := H_bw.out
  have zw := H_zw.out
  clear H_hjd H_qjd H_hjf H_qjf H_hjh H_qjh H_hp H_bw H_zw
  replace hq := hq.rehome (B' := g) zw
  replace hjd := hjd.below b16
  replace qjd := qjd.below b16
  replace hjf := hjf.below b16
  replace qjf := qjf.below b16
  replace hjh := hjh.below b16
  replace qjh := qjh.below b16
  replace hp := hp.below b16
  replace bw := bw.trans (b16.mono (by omega))
  replace zw := Nat.le_trans zw b16.size
  clear b16
  obtain ⟨nq, qo, ql, qc, qO, qL, qC, rfl⟩ := hq.seeV
  have CC : Hid _ := halfR (n := 3) (d := 1) (w := x16) (by decide) (by decide) (by decide) (by decide) (by decide)
  have H_hjd : Hid (ROwn (g) x16 (.agg #[.bool njd, .slice jdo jdl jdc, .slice jdO jdL jdC]) ((Rat.divInt 5 6))) := hjd
  have H_qjd : Hid (QCell x16 (ajd) njd (.slice jdo jdl jdc) (.slice jdO jdL jdC)) := qjd
  have H_hjf : Hid (ROwn (g) x16 (.agg #[.bool njf, .slice jfo jfl jfc, .slice jfO jfL jfC]) ((Rat.divInt 1 2))) := hjf
  have H_qjf : Hid (QCell x16 (ajf) njf (.slice jfo jfl jfc) (.slice jfO jfL jfC)) := qjf
  have H_hjh : Hid (ROwn (g) x16 (.agg #[.bool njh, .slice jho jhl jhc, .slice jhO jhL jhC]) ((Rat.divInt 8 27))) := hjh
  have H_qjh : Hid (QCell x16 (ajh) njh (.slice jho jhl jhc) (.slice jhO jhL jhC)) := qjh
  have H_hp : Hid (ROwn (g) x16 (.agg #[.bool np, .slice po pl pc, .slice pO pL pC]) ((Rat.divInt 3 1))) := hp
  have H_hq : Hid (ROwn (g) x16 (.agg #[.bool nq, .slice qo ql qc, .slice qO qL qC]) ((Rat.divInt 1 1))) := hq
  have H_bw : Hid (Below g w x16) := bw
  have H_zw : Hid (g ≤ x16.heap.size) := zw
  clear hjd qjd hjf qjf hjh qjh hp hq bw zw
  go_wp2_with fail
  refine Calls.mono CC.out ?_
  rintro e x17 ⟨v, rfl, hr, b17⟩
  clear CC 
  have hjd := H_hjd.out
  have qjd := H_qjd.out
  have hjf := H_hjf.out
  have qjf := H_qjf.out
  have hjh := H_hjh.out
  have qjh := H_qjh.out
  have hp := H_hp.out
  have hq := H_hq.out
  have bw := H_bw.out
  have zw := H_zw.out
  clear H_hjd H_qjd H_hjf H_qjf H_hjh H_qjh H_hp H_hq H_bw H_zw
  replace hr := hr.rehome (B' := g) zw
  replace hjd := hjd.below b17
  replace qjd := qjd.below b17
  replace hjf := hjf.below b17
  replace qjf := qjf.below b17
  replace hjh := hjh.below b17
  replace qjh := qjh.below b17
  replace hp := hp.below b17
  replace hq := hq.below b17
  replace bw := bw.trans (b17.mono (by omega))
  replace zw := Nat.le_trans zw b17.size
  clear b17
  obtain ⟨nr, ro, rl, rc, rO, rL, rC, rfl⟩ := hr.seeV
  have CC : Hid _ := halfR (n := 1) (d := 1) (w := x17) (by decide) (by decide) (by decide) (by decide) (by decide)
  have H_hjd : Hid (ROwn (g) x17 (.agg #[.bool njd, .slice jdo jdl jdc, .slice jdO jdL jdC]) ((Rat.divInt 5 6))) := hjd
  have H_qjd : Hid (QCell x17 (ajd) njd (.slice jdo jdl jdc) (.slice jdO jdL jdC)) := qjd
  have H_hjf : Hid (ROwn (g) x17 (.agg #[.bool njf, .slice jfo jfl jfc, .slice jfO jfL jfC]) ((Rat.divInt 1 2))) := hjf
  have H_qjf : Hid (QCell x17 (ajf) njf (.slice jfo jfl jfc) (.slice jfO jfL jfC)) := qjf
  have H_hjh : Hid (ROwn (g) x17 (.agg #[.bool njh, .slice jho jhl jhc, .slice jhO jhL jhC]) ((Rat.divInt 8 27))) := hjh
  have H_qjh : Hid (QCell x17 (ajh) njh (.slice jho jhl jhc) (.slice jhO jhL jhC)) := qjh
  have H_hp : Hid (ROwn (g) x17 (.agg #[.bool np, .slice po pl pc, .slice pO pL pC]) ((Rat.divInt 3 1))) := hp
  have H_hq : Hid (ROwn (g) x17 (.agg #[.bool nq, .slice qo ql qc, .slice qO qL qC]) ((Rat.divInt 1 1))) := hq
  have H_hr : Hid (ROwn (g) x17 (.agg #[.bool nr, .slice ro rl rc, .slice rO rL rC]) ((Rat.divInt 3 1))) := hr
  have H_bw : Hid (Below g w x17) := bw
  have H_zw : Hid (g ≤ x17.heap.size) := zw
  clear hjd qjd hjf qjf hjh qjh hp hq hr bw zw
  go_wp2_with fail
  refine Calls.mono CC.out ?_
  rintro e x18 ⟨v, rfl, hs, b18⟩
  clear CC 
  have hjd := H_hjd.out
  have qjd := H_qjd.out
  have hjf := H_hjf.out
  have qjf := H_qjf.out
  have hjh := H_hjh.out
  have qjh := H_qjh.out
  have hp := H_hp.out
  have hq := H_hq.out
  have hr := H_hr.out
  have bw := H_bw.out
  have zw := H_zw.out
  clear H_hjd H_qjd H_hjf H_qjf H_hjh H_qjh H_hp H_hq H_hr H_bw H_zw
  replace hs := hs.rehome (B' := g) zw
  replace hjd := hjd.below b18
  replace qjd := qjd.below b18
  replace hjf := hjf.below b18
  replace qjf := qjf.below b18
  replace hjh := hjh.below b18
  replace qjh := qjh.below b18
  replace hp := hp.below b18
  replace hq := hq.below b18
  replace hr := hr.below b18
  replace bw := bw.trans (b18.mono (by omega))
  replace zw := Nat.le_trans zw b18.size
  clear b18
  obtain ⟨ns, so, sl, sc, sO, sL, sC, rfl⟩ := hs.seeV
  have CC : Hid _ := slopesMul (hp.nm (L := 1) (sz1 (by decide +kernel) (by decide +kernel)) (by decide)) (hq.nm (L := 1) (sz1 (by decide +kernel) (by decide +kernel)) (by decide)) (hr.nm (L := 1) (sz1 (by decide +kernel) (by decide +kernel)) (by decide)) (hs.nm (L := 1) (sz1 (by decide +kernel) (by decide +kernel)) (by decide)) (by decide)
  have H_hjd : Hid (ROwn (g) x18 (.agg #[.bool njd, .slice jdo jdl jdc, .slice jdO jdL jdC]) ((Rat.divInt 5 6))) := hjd
  have H_qjd : Hid (QCell x18 (ajd) njd (.slice jdo jdl jdc) (.slice jdO jdL jdC)) := qjd
  have H_hjf : Hid (ROwn (g) x18 (.agg #[.bool njf, .slice jfo jfl jfc, .slice jfO jfL jfC]) ((Rat.divInt 1 2))) := hjf
  have H_qjf : Hid (QCell x18 (ajf) njf (.slice jfo jfl jfc) (.slice jfO jfL jfC)) := qjf
  have H_hjh : Hid (ROwn (g) x18 (.agg #[.bool njh, .slice jho jhl jhc, .slice jhO jhL jhC]) ((Rat.divInt 8 27))) := hjh
  have H_qjh : Hid (QCell x18 (ajh) njh (.slice jho jhl jhc) (.slice jhO jhL jhC)) := qjh
  have H_hp : Hid (ROwn (g) x18 (.agg #[.bool np, .slice po pl pc, .slice pO pL pC]) ((Rat.divInt 3 1))) := hp
  have H_hq : Hid (ROwn (g) x18 (.agg #[.bool nq, .slice qo ql qc, .slice qO qL qC]) ((Rat.divInt 1 1))) := hq
  have H_hr : Hid (ROwn (g) x18 (.agg #[.bool nr, .slice ro rl rc, .slice rO rL rC]) ((Rat.divInt 3 1))) := hr
  have H_hs : Hid (ROwn (g) x18 (.agg #[.bool ns, .slice so sl sc, .slice sO sL sC]) ((Rat.divInt 1 1))) := hs
  have H_bw : Hid (Below g w x18) := bw
  have H_zw : Hid (g ≤ x18.heap.size) := zw
  clear hjd qjd hjf qjf hjh qjh hp hq hr hs bw zw
  go_wp2_with fail
  refine Calls.mono CC.out ?_
  rintro e x19 ⟨ny, yo, yl, yc, yO, yL, yC, my, yp, yq, yr, yP, yQ, yR, rfl, hy, hy2, b19⟩
  clear CC 
  have hjd := H_hjd.out
  have qjd := H_qjd.out
  have hjf := H_hjf.out
  have qjf := H_qjf.out
  have hjh := H_hjh.out
  have qjh := H_qjh.out
  have hp := H_hp.out
  have hq := H_hq.out
  have hr := H_hr.out
  have hs := H_hs.out
  have bw := H_bw.out
  have zw := H_zw.out
  clear H_hjd H_qjd H_hjf H_qjf H_hjh H_qjh H_hp H_hq H_hr H_hs H_bw H_zw
  replace hy := hy.rehome (B' := g) zw
  replace hy2 := hy2.rehome (B' := g) zw
  rw [show (Rat.divInt 3 1) * (Rat.divInt 3 1) = (Rat.divInt 9 1) by decide +kernel] at hy
  rw [show (Rat.divInt 3 1) * (Rat.divInt 1 1) + (Rat.divInt 1 1) * (Rat.divInt 3 1) = (Rat.divInt 6 1) by decide +kernel] at hy2
  replace hjd := hjd.below b19
  replace qjd := qjd.below b19
  replace hjf := hjf.below b19
  replace qjf := qjf.below b19
  replace hjh := hjh.below b19
  replace qjh := qjh.below b19
  replace hp := hp.below b19
  replace hq := hq.below b19
  replace hr := hr.below b19
  replace hs := hs.below b19
  replace bw := bw.trans (b19.mono (by omega))
  replace zw := Nat.le_trans zw b19.size
  clear b19
  clear hp hq hr hs
  clear hy
  obtain ⟨WS, hWS⟩ : ∃ u, u = x19.alloc (.cells #[.bool ny, .slice yo yl yc, .slice yO yL yC, .bool my, .slice yp yq yr, .slice yP yQ yR] 43) := ⟨_, rfl⟩
  obtain ⟨ay, hay⟩ : ∃ s, s = x19.heap.size := ⟨_, rfl⟩
  have qy : SlC WS (ay) ny (.slice yo yl yc) (.slice yO yL yC) my (.slice yp yq yr) (.slice yP yQ yR) := by rw [hWS]; exact slc_new _ hay.symm
  have bq : Below x19.heap.size x19 WS := by rw [hWS]; exact belowA _ _
  have HWS : Hid (WS = x19.alloc (.cells #[.bool ny, .slice yo yl yc, .slice yO yL yC, .bool my, .slice yp yq yr, .slice yP yQ yR] 43)) := hWS
  have Hay : Hid (ay = x19.heap.size) := hay
  clear hWS hay
  replace hjd := hjd.below bq
  replace qjd := qjd.below bq
  replace hjf := hjf.below bq
  replace qjf := qjf.below bq
  replace hjh := hjh.below bq
  replace qjh := qjh.below bq
  replace hy2 := hy2.below bq
  replace bw := bw.trans (bq.mono (by omega))
  replace zw := Nat.le_trans zw bq.size
  clear bq
  have H_hjd : Hid (ROwn (g) WS (.agg #[.bool njd, .slice jdo jdl jdc, .slice jdO jdL jdC]) ((Rat.divInt 5 6))) := hjd
  have H_qjd : Hid (QCell WS (ajd) njd (.slice jdo jdl jdc) (.slice jdO jdL jdC)) := qjd
  have H_hjf : Hid (ROwn (g) WS (.agg #[.bool njf, .slice jfo jfl jfc, .slice jfO jfL jfC]) ((Rat.divInt 1 2))) := hjf
  have H_qjf : Hid (QCell WS (ajf) njf (.slice jfo jfl jfc) (.slice jfO jfL jfC)) := qjf
  have H_hjh : Hid (ROwn (g) WS (.agg #[.bool njh, .slice jho jhl jhc, .slice jhO jhL jhC]) ((Rat.divInt 8 27))) := hjh
  have H_qjh : Hid (QCell WS (ajh) njh (.slice jho jhl jhc) (.slice jhO jhL jhC)) := qjh
  have H_hy2 : Hid (ROwn g WS (.agg #[.bool my, .slice yp yq yr, .slice yP yQ yR]) (Rat.divInt 6 1)) := hy2
  have H_qy : Hid (SlC WS (ay) ny (.slice yo yl yc) (.slice yO yL yC) my (.slice yp yq yr) (.slice yP yQ yR)) := qy
  have H_bw : Hid (Below g w WS) := bw
  have H_zw : Hid (g ≤ WS.heap.size) := zw
  clear hjd qjd hjf qjf hjh qjh hy2 qy bw zw
  go_upto_region 6 with fail
  rw [← HWS.out, ← Hay.out]
  clear HWS Hay
  have hjd := H_hjd.out
  have qjd := H_qjd.out
  have hjf := H_hjf.out
  have qjf := H_qjf.out
  have hjh := H_hjh.out
  have qjh := H_qjh.out
  have hy2 := H_hy2.out
  have qy := H_qy.out
  have bw := H_bw.out
  have zw := H_zw.out
  clear H_hjd H_qjd H_hjf H_qjf H_hjh H_qjh H_hy2 H_qy H_bw H_zw
  have KEEP : ∀ u, Below WS.heap.size WS u → L3.AllL u [(0, fun w' => w'.cell? ⟨ajd, 0, none⟩ = some (.bool njd) ∧ w'.cell? ⟨ajd, 1, none⟩ = some (.slice jdo jdl jdc) ∧ w'.cell? ⟨ajd, 2, none⟩ = some (.slice jdO jdL jdC)), (4, fun w' => w'.cell? ⟨ajf, 0, none⟩ = some (.bool njf) ∧ w'.cell? ⟨ajf, 1, none⟩ = some (.slice jfo jfl jfc) ∧ w'.cell? ⟨ajf, 2, none⟩ = some (.slice jfO jfL jfC)), (13, fun w' => w'.cell? ⟨ajh, 0, none⟩ = some (.bool njh) ∧ w'.cell? ⟨ajh, 1, none⟩ = some (.slice jho jhl jhc) ∧ w'.cell? ⟨ajh, 2, none⟩ = some (.slice jhO jhL jhC)), (23, fun w' => w'.cell? ⟨ay, 3, none⟩ = some (.bool my) ∧ w'.cell? ⟨ay, 4, none⟩ = some (.slice yp yq yr) ∧ w'.cell? ⟨ay, 5, none⟩ = some (.slice yP yQ yR))] := fun u hu => ⟨(qjd.below hu).cells, (qjf.below hu).cells, (qjh.below hu).cells, ⟨(qy.below hu).cells.2.2.2.1, (qy.below hu).cells.2.2.2.2.1, (qy.below hu).cells.2.2.2.2.2⟩, trivial⟩
  refine L3.region_late [(0, fun w' => w'.cell? ⟨ajd, 0, none⟩ = some (.bool njd) ∧ w'.cell? ⟨ajd, 1, none⟩ = some (.slice jdo jdl jdc) ∧ w'.cell? ⟨ajd, 2, none⟩ = some (.slice jdO jdL jdC)), (4, fun w' => w'.cell? ⟨ajf, 0, none⟩ = some (.bool njf) ∧ w'.cell? ⟨ajf, 1, none⟩ = some (.slice jfo jfl jfc) ∧ w'.cell? ⟨ajf, 2, none⟩ = some (.slice jfO jfL jfC)), (13, fun w' => w'.cell? ⟨ajh, 0, none⟩ = some (.bool njh) ∧ w'.cell? ⟨ajh, 1, none⟩ = some (.slice jho jhl jhc) ∧ w'.cell? ⟨ajh, 2, none⟩ = some (.slice jhO jhL jhC)), (23, fun w' => w'.cell? ⟨ay, 3, none⟩ = some (.bool my) ∧ w'.cell? ⟨ay, 4, none⟩ = some (.slice yp yq yr) ∧ w'.cell? ⟨ay, 5, none⟩ = some (.slice yP yQ yR))] (by kernel_rfl) ?_
  have B : Below WS.heap.size WS WS.drew := (Below.refl _ _).drew
  obtain ⟨w6, hw6⟩ : ∃ u, u = WS.drew := ⟨_, rfl⟩
  rw [← hw6] at B ⊢
  clear hw6
  have hHeld := KEEP _ B
  refine L3.late_take 0 (v := .agg #[.bool njd, .slice jdo jdl jdc, .slice jdO jdL jdC]) rfl (by kernel_rfl) (List.Mem.head _) (by kernel_rfl) (by kernel_rfl) (by kernel_rfl) (by kernel_rfl) (fun _ _ _ h => h) (Or.inl ⟨by rfl, ?_⟩) hHeld ?_
  · (intro u hu; (try dsimp only at hu); go_split_ands; go_simp)
  (try simp only [Act.put, List.setIfInBounds_toArray, List.set_cons_zero, List.set_cons_succ])
  refine L3.late_step 1 (by kernel_rfl) rfl (fun K hK => ?_)
  go_simp
  refine (halfR (n := 5) (d := 6) (by decide) (by decide) (by decide) (by decide) (by decide)).mono ?_
  rintro e u7 ⟨v, rfl, hz7, c7⟩
  obtain ⟨nz7, z7o, z7l, z7c, z7O, z7L, z7C, rfl⟩ := hz7.seeV
  have B := B.trans (c7.mono B.size)
  clear c7 hHeld
  have hHeld := KEEP _ B
  go_wp2_with fail
  refine hK.out _ _ (L3.AllL.kept hHeld) ?_
  clear hK K
  (try simp only [Act.put, List.setIfInBounds_toArray, List.set_cons_zero, List.set_cons_succ])
  refine L3.late_step 2 (by kernel_rfl) rfl (fun K hK => ?_)
  go_simp
  have CE := equalR ((hjd.below B).rq ((sz1 (by decide +kernel) (by decide +kernel)).mono (by decide))) (hz7.rq ((sz1 (by decide +kernel) (by decide +kernel)).mono (by decide)))
  rw [show decide (cmpQ (Rat.divInt 5 6) (Rat.divInt 5 6) = 0) = true by decide +kernel] at CE
  refine CE.mono ?_
  rintro e u8 ⟨rfl, c8⟩
  clear CE
  have B := B.trans (c8.mono B.size)
  replace hz7 := hz7.below c8
  clear c8 hHeld
  have hHeld := KEEP _ B
  go_wp2_with fail
  refine hK.out _ _ (L3.AllL.kept hHeld) ?_
  clear hK K
  (try simp only [Act.put, List.setIfInBounds_toArray, List.set_cons_zero, List.set_cons_succ])
  refine L3.late_free 3 (v := .bool true) rfl (by kernel_rfl) (by kernel_rfl) (by kernel_rfl) (by kernel_rfl) (by kernel_rfl) (by kernel_rfl) (fun _ _ _ h => h) (Or.inl ⟨by rfl, ?_⟩) hHeld ?_
  · (intro u _; go_simp)
  (try simp only [Act.put, List.setIfInBounds_toArray, List.set_cons_zero, List.set_cons_succ])
  refine L3.late_take 4 (v := .agg #[.bool njf, .slice jfo jfl jfc, .slice jfO jfL jfC]) rfl (by kernel_rfl) (List.Mem.tail _ (List.Mem.head _)) (by kernel_rfl) (by kernel_rfl) (by kernel_rfl) (by kernel_rfl) (fun _ _ _ h => h) (Or.inl ⟨by rfl, ?_⟩) hHeld ?_
  · (intro u hu; (try dsimp only at hu); go_split_ands; go_simp)
  (try simp only [Act.put, List.setIfInBounds_toArray, List.set_cons_zero, List.set_cons_succ])
  refine L3.late_step 5 (by kernel_rfl) rfl (fun K hK => ?_)
  go_simp
  refine (halfR (n := 1) (d := 2) (by decide) (by decide) (by decide) (by decide) (by decide)).mono ?_
  rintro e u9 ⟨v, rfl, hz9, c9⟩
  obtain ⟨nz9, z9o, z9l, z9c, z9O, z9L, z9C, rfl⟩ := hz9.seeV
  have B := B.trans (c9.mono B.size)
  replace hz7 := hz7.below c9
  clear c9 hHeld
  have hHeld := KEEP _ B
  go_wp2_with fail
  refine hK.out _ _ (L3.AllL.kept hHeld) ?_
  clear hK K
  (try simp only [Act.put, List.setIfInBounds_toArray, List.set_cons_zero, List.set_cons_succ])
  refine L3.late_step 6 (by kernel_rfl) rfl (fun K hK => ?_)
  go_simp
  have CE := equalR ((hjf.below B).rq ((sz1 (by decide +kernel) (by decide +kernel)).mono (by decide))) (hz9.rq ((sz1 (by decide +kernel) (by decide +kernel)).mono (by decide)))
  rw [show decide (cmpQ (Rat.divInt 1 2) (Rat.divInt 1 2) = 0) = true by decide +kernel] at CE
  refine CE.mono ?_
  rintro e u10 ⟨rfl, c10⟩
  clear CE
  have B := B.trans (c10.mono B.size)
  replace hz7 := hz7.below c10
  replace hz9 := hz9.below c10
  clear c10 hHeld
  have hHeld := KEEP _ B
  go_wp2_with fail
  refine hK.out _ _ (L3.AllL.kept hHeld) ?_
  clear hK K
  (try simp only [Act.put, List.setIfInBounds_toArray, List.set_cons_zero, List.set_cons_succ])
  refine L3.late_free 7 (v := .bool true) rfl (by kernel_rfl) (by kernel_rfl) (by kernel_rfl) (by kernel_rfl) (by kernel_rfl) (by kernel_rfl) (fun _ _ _ h => h) (Or.inl ⟨by rfl, ?_⟩) hHeld ?_
  · (intro u _; go_simp)
  (try simp only [Act.put, List.setIfInBounds_toArray, List.set_cons_zero, List.set_cons_succ])
  refine L3.late_free 8 (v := .bool true) rfl (by kernel_rfl) (by kernel_rfl) (by kernel_rfl) (by kernel_rfl) (by kernel_rfl) (by kernel_rfl) (fun _ _ _ h => h) (Or.inl ⟨by rfl, ?_⟩) hHeld ?_
  · (intro u _; go_simp)
  (try simp only [Act.put, List.setIfInBounds_toArray, List.set_cons_zero, List.set_cons_succ])
  refine L3.late_free 9 (v := .int .i64 0) rfl (by kernel_rfl) (by kernel_rfl) (by kernel_rfl) (by kernel_rfl) (by kernel_rfl) (by kernel_rfl) (fun _ _ _ h => h) (Or.inl ⟨by rfl, ?_⟩) hHeld ?_
  · (intro u _; go_simp)
  (try simp only [Act.put, List.setIfInBounds_toArray, List.set_cons_zero, List.set_cons_succ])
  refine L3.late_free 10 (v := .bool true) rfl (by kernel_rfl) (by kernel_rfl) (by kernel_rfl) (by kernel_rfl) (by kernel_rfl) (by kernel_rfl) (fun _ _ _ h => h) (Or.inl ⟨by rfl, ?_⟩) hHeld ?_
  · (intro u _; go_simp)
  (try simp only [Act.put, List.setIfInBounds_toArray, List.set_cons_zero, List.set_cons_succ])
  refine L3.late_free 11 (v := .bool true) rfl (by kernel_rfl) (by kernel_rfl) (by kernel_rfl) (by kernel_rfl) (by kernel_rfl) (by kernel_rfl) (fun _ _ _ h => h) (Or.inl ⟨by rfl, ?_⟩) hHeld ?_
  · (intro u _; go_simp)
  (try simp only [Act.put, List.setIfInBounds_toArray, List.set_cons_zero, List.set_cons_succ])
  refine L3.late_free 12 (v := .bool true) rfl (by kernel_rfl) (by kernel_rfl) (by kernel_rfl) (by kernel_rfl) (by kernel_rfl) (by kernel_rfl) (fun _ _ _ h => h) (Or.inl ⟨by rfl, ?_⟩) hHeld ?_
  · (intro u _; go_simp)
  (try simp only [Act.put, List.setIfInBounds_toArray, List.set_cons_zero, List.set_cons_succ])
  refine L3.late_take 13 (v := .agg #[.bool njh, .slice jho jhl jhc, .slice jhO jhL jhC]) rfl (by kernel_rfl) (List.Mem.tail _ (List.Mem.tail _ (List.Mem.head _))) (by kernel_rfl) (by kernel_rfl) (by kernel_rfl) (by kernel_rfl) (fun _ _ _ h => h) (Or.inl ⟨by rfl, ?_⟩) hHeld ?_
  · (intro u hu; (try dsimp only at hu); go_split_ands; go_simp)
  (try simp only [Act.put, List.setIfInBounds_toArray, List.set_cons_zero, List.set_cons_succ])
  refine L3.late_step 14 (by kernel_rfl) rfl (fun K hK => ?_)
  go_simp
  refine (halfR (n := 8) (d := 27) (by decide) (by decide) (by decide) (by decide) (by decide)).mono ?_
  rintro e u11 ⟨v, rfl, hz11, c11⟩
  obtain ⟨nz11, z11o, z11l, z11c, z11O, z11L, z11C, rfl⟩ := hz11.seeV
  have B := B.trans (c11.mono B.size)
  replace hz7 := hz7.below c11
  replace hz9 := hz9.below c11
  clear c11 hHeld
  have hHeld := KEEP _ B
  go_wp2_with fail
  refine hK.out _ _ (L3.AllL.kept hHeld) ?_
  clear hK K
  (try simp only [Act.put, List.setIfInBounds_toArray, List.set_cons_zero, List.set_cons_succ])
  refine L3.late_step 15 (by kernel_rfl) rfl (fun K hK => ?_)
  go_simp
  have CE := equalR ((hjh.below B).rq ((sz1 (by decide +kernel) (by decide +kernel)).mono (by decide))) (hz11.rq ((sz1 (by decide +kernel) (by decide +kernel)).mono (by decide)))
  rw [show decide (cmpQ (Rat.divInt 8 27) (Rat.divInt 8 27) = 0) = true by decide +kernel] at CE
  refine CE.mono ?_
  rintro e u12 ⟨rfl, c12⟩
  clear CE
  have B := B.trans (c12.mono B.size)
  replace hz7 := hz7.below c12
  replace hz9 := hz9.below c12
  replace hz11 := hz11.below c12
  clear c12 hHeld
  have hHeld := KEEP _ B
  go_wp2_with fail
  refine hK.out _ _ (L3.AllL.kept hHeld) ?_
  clear hK K
  (try simp only [Act.put, List.setIfInBounds_toArray, List.set_cons_zero, List.set_cons_succ])
  refine L3.late_free 16 (v := .bool true) rfl (by kernel_rfl) (by kernel_rfl) (by kernel_rfl) (by kernel_rfl) (by kernel_rfl) (by kernel_rfl) (fun _ _ _ h => h) (Or.inl ⟨by rfl, ?_⟩) hHeld ?_
  · (intro u _; go_simp)
  (try simp only [Act.put, List.setIfInBounds_toArray, List.set_cons_zero, List.set_cons_succ])
  refine L3.late_free 17 (v := .bool true) rfl (by kernel_rfl) (by kernel_rfl) (by kernel_rfl) (by kernel_rfl) (by kernel_rfl) (by kernel_rfl) (fun _ _ _ h => h) (Or.inl ⟨by rfl, ?_⟩) hHeld ?_
  · (intro u _; go_simp)
  (try simp only [Act.put, List.setIfInBounds_toArray, List.set_cons_zero, List.set_cons_succ])
  refine L3.late_free 18 (v := .int .i64 2) rfl (by kernel_rfl) (by kernel_rfl) (by kernel_rfl) (by kernel_rfl) (by kernel_rfl) (by kernel_rfl) (fun _ _ _ h => h) (Or.inl ⟨by rfl, ?_⟩) hHeld ?_
  · (intro u _; go_simp)
  (try simp only [Act.put, List.setIfInBounds_toArray, List.set_cons_zero, List.set_cons_succ])
  refine L3.late_free 19 (v := .bool true) rfl (by kernel_rfl) (by kernel_rfl) (by kernel_rfl) (by kernel_rfl) (by kernel_rfl) (by kernel_rfl) (fun _ _ _ h => h) (Or.inl ⟨by rfl, ?_⟩) hHeld ?_
  · (intro u _; go_simp)
  (try simp only [Act.put, List.setIfInBounds_toArray, List.set_cons_zero, List.set_cons_succ])
  refine L3.late_free 20 (v := .bool true) rfl (by kernel_rfl) (by kernel_rfl) (by kernel_rfl) (by kernel_rfl) (by kernel_rfl) (by kernel_rfl) (fun _ _ _ h => h) (Or.inl ⟨by rfl, ?_⟩) hHeld ?_
  · (intro u _; go_simp)
  (try simp only [Act.put, List.setIfInBounds_toArray, List.set_cons_zero, List.set_cons_succ])
  refine L3.late_free 21 (v := .bool true) rfl (by kernel_rfl) (by kernel_rfl) (by kernel_rfl) (by kernel_rfl) (by kernel_rfl) (by kernel_rfl) (fun _ _ _ h => h) (Or.inl ⟨by rfl, ?_⟩) hHeld ?_
  · (intro u _; go_simp)
  (try simp only [Act.put, List.setIfInBounds_toArray, List.set_cons_zero, List.set_cons_succ])
  refine L3.late_free 22 (v := .pointer (some ⟨ay, 3, none⟩)) rfl (by kernel_rfl) (by kernel_rfl) (by kernel_rfl) (by kernel_rfl) (by kernel_rfl) (by kernel_rfl) (fun _ _ _ h => h) (Or.inl ⟨by rfl, ?_⟩) hHeld ?_
  · (intro u _; go_simp)
  (try simp only [Act.put, List.setIfInBounds_toArray, List.set_cons_zero, List.set_cons_succ])
  refine L3.late_take 23 (v := .agg #[.bool my, .slice yp yq yr, .slice yP yQ yR]) rfl (by kernel_rfl) (List.Mem.tail _ (List.Mem.tail _ (List.Mem.tail _ (List.Mem.head _)))) (by kernel_rfl) (by kernel_rfl) (by kernel_rfl) (by kernel_rfl) (fun _ _ _ h => h) (Or.inl ⟨by rfl, ?_⟩) hHeld ?_
  · (intro u hu; (try dsimp only at hu); go_split_ands; go_simp)
  (try simp only [Act.put, List.setIfInBounds_toArray, List.set_cons_zero, List.set_cons_succ])
  refine L3.late_step 24 (by kernel_rfl) rfl (fun K hK => ?_)
  go_simp
  refine (halfR (n := 6) (d := 1) (by decide) (by decide) (by decide) (by decide) (by decide)).mono ?_
  rintro e u13 ⟨v, rfl, hz13, c13⟩
  obtain ⟨nz13, z13o, z13l, z13c, z13O, z13L, z13C, rfl⟩ := hz13.seeV
  have B := B.trans (c13.mono B.size)
  replace hz7 := hz7.below c13
  replace hz9 := hz9.below c13
  replace hz11 := hz11.below c13
  clear c13 hHeld
  have hHeld := KEEP _ B
  go_wp2_with fail
  refine hK.out _ _ (L3.AllL.kept hHeld) ?_
  clear hK K
  (try simp only [Act.put, List.setIfInBounds_toArray, List.set_cons_zero, List.set_cons_succ])
  refine L3.late_step 25 (by kernel_rfl) rfl (fun K hK => ?_)
  go_simp
  have CE := equalR ((hy2.below B).rq ((sz1 (by decide +kernel) (by decide +kernel)).mono (by decide))) (hz13.rq ((sz1 (by decide +kernel) (by decide +kernel)).mono (by decide)))
  rw [show decide (cmpQ (Rat.divInt 6 1) (Rat.divInt 6 1) = 0) = true by decide +kernel] at CE
  refine CE.mono ?_
  rintro e u14 ⟨rfl, c14⟩
  clear CE
  have B := B.trans (c14.mono B.size)
  replace hz7 := hz7.below c14
  replace hz9 := hz9.below c14
  replace hz11 := hz11.below c14
  replace hz13 := hz13.below c14
  clear c14 hHeld
  have hHeld := KEEP _ B
  go_wp2_with fail
  refine hK.out _ _ (L3.AllL.kept hHeld) ?_
  clear hK K
  (try simp only [Act.put, List.setIfInBounds_toArray, List.set_cons_zero, List.set_cons_succ])
  refine L3.late_free 26 (v := .bool true) rfl (by kernel_rfl) (by kernel_rfl) (by kernel_rfl) (by kernel_rfl) (by kernel_rfl) (by kernel_rfl) (fun _ _ _ h => h) (Or.inl ⟨by rfl, ?_⟩) hHeld ?_
  · (intro u _; go_simp)
  (try simp only [Act.put, List.setIfInBounds_toArray, List.set_cons_zero, List.set_cons_succ])
  refine L3.late_free 27 (v := .bool true) rfl (by kernel_rfl) (by kernel_rfl) (by kernel_rfl) (by kernel_rfl) (by kernel_rfl) (by kernel_rfl) (fun _ _ _ h => h) (Or.inl ⟨by rfl, ?_⟩) hHeld ?_
  · (intro u _; go_simp)
  (try simp only [Act.put, List.setIfInBounds_toArray, List.set_cons_zero, List.set_cons_succ])
  refine L3.late_free 28 (v := .agg #[]) rfl (by kernel_rfl) (by kernel_rfl) (by kernel_rfl) (by kernel_rfl) (by kernel_rfl) (by kernel_rfl) (fun _ _ _ h => h) (Or.inl ⟨by rfl, ?_⟩) hHeld ?_
  · (intro u _; go_simp)
  (try simp only [Act.put, List.setIfInBounds_toArray, List.set_cons_zero, List.set_cons_succ])
  refine L3.late_free 29 (v := .iface 56 (.agg #[])) rfl (by kernel_rfl) (by kernel_rfl) (by kernel_rfl) (by kernel_rfl) (by kernel_rfl) (by kernel_rfl) (fun _ _ _ h => h) (Or.inl ⟨by rfl, ?_⟩) hHeld ?_
  · (intro u _; go_simp)
  (try simp only [Act.put, List.setIfInBounds_toArray, List.set_cons_zero, List.set_cons_succ])
  refine L3.late_step 30 (by kernel_rfl) rfl (fun K hK => ?_)
  go_simp
  obtain ⟨u15, hu15⟩ : ∃ u, u = u14.alloc (.cells #[.bool false, .bool true] 4) := ⟨_, rfl⟩
  obtain ⟨bz, hbz⟩ : ∃ u, u = u14.heap.size := ⟨_, rfl⟩
  have hz0 : (u14.alloc (.cells #[.bool false, .bool true] 4)).heap[u14.heap.size]? = some (.cells #[.bool false, .bool true] 4 (0, 0)) := heap_alloc_new u14 _
  rw [← hu15, ← hbz] at hz0
  have cz0 : u15.cell? ⟨bz, 0, none⟩ = some (.bool false) := by rw [cell_of_row _ bz _ _ _ _ hz0]; rfl
  have cz1 : u15.cell? ⟨bz, 1, none⟩ = some (.bool true) := by rw [cell_of_row _ bz _ _ _ _ hz0]; rfl
  have lz : bz < u15.heap.size := (Array.getElem?_eq_some_iff.1 hz0).1
  have c15 : Below u14.heap.size u14 u15 := by rw [hu15]; exact belowA _ _
  rw [← hu15, ← hbz]
  clear hu15 hbz hz0
  have B := B.trans (c15.mono B.size)
  replace hz7 := hz7.below c15
  replace hz9 := hz9.below c15
  replace hz11 := hz11.below c15
  replace hz13 := hz13.below c15
  clear c15 hHeld
  have hHeld := KEEP _ B
  refine hK.out _ _ (L3.AllL.kept hHeld) ?_
  clear hK K
  (try simp only [Act.put, List.setIfInBounds_toArray, List.set_cons_zero, List.set_cons_succ])
  refine L3.late_step 31 (by kernel_rfl) rfl (fun K hK => ?_)
  go_simp
  refine (sumBool2 bz _ cz0 cz1 lz).mono ?_
  rintro e u16 ⟨rfl, c16⟩
  clear cz0 cz1 lz
  have B := B.trans (c16.mono B.size)
  replace hz7 := hz7.below c16
  replace hz9 := hz9.below c16
  replace hz11 := hz11.below c16
  replace hz13 := hz13.below c16
  clear c16 hHeld
  have hHeld := KEEP _ B
  go_wp2_with fail
  refine hK.out _ _ (L3.AllL.kept hHeld) ?_
  clear hK K
  (try simp only [Act.put, List.setIfInBounds_toArray, List.set_cons_zero, List.set_cons_succ])
  refine L3.late_free 32 (v := .bool true) rfl (by kernel_rfl) (by kernel_rfl) (by kernel_rfl) (by kernel_rfl) (by kernel_rfl) (by kernel_rfl) (fun _ _ _ h => h) (Or.inl ⟨by rfl, ?_⟩) hHeld ?_
  · (intro u _; go_simp)
  (try simp only [Act.put, List.setIfInBounds_toArray, List.set_cons_zero, List.set_cons_succ])
  refine L3.late_free 33 (v := .bool true) rfl (by kernel_rfl) (by kernel_rfl) (by kernel_rfl) (by kernel_rfl) (by kernel_rfl) (by kernel_rfl) (fun _ _ _ h => h) (Or.inl ⟨by rfl, ?_⟩) hHeld ?_
  · (intro u _; go_simp)
  (try simp only [Act.put, List.setIfInBounds_toArray, List.set_cons_zero, List.set_cons_succ])
  refine L3.late_free 34 (v := .agg #[]) rfl (by kernel_rfl) (by kernel_rfl) (by kernel_rfl) (by kernel_rfl) (by kernel_rfl) (by kernel_rfl) (fun _ _ _ h => h) (Or.inl ⟨by rfl, ?_⟩) hHeld ?_
  · (intro u _; go_simp)
  (try simp only [Act.put, List.setIfInBounds_toArray, List.set_cons_zero, List.set_cons_succ])
  refine L3.late_free 35 (v := .iface 54 (.agg #[])) rfl (by kernel_rfl) (by kernel_rfl) (by kernel_rfl) (by kernel_rfl) (by kernel_rfl) (by kernel_rfl) (fun _ _ _ h => h) (Or.inl ⟨by rfl, ?_⟩) hHeld ?_
  · (intro u _; go_simp)
  (try simp only [Act.put, List.setIfInBounds_toArray, List.set_cons_zero, List.set_cons_succ])
  refine L3.late_step 36 (by kernel_rfl) rfl (fun K hK => ?_)
  go_simp
  refine (prodInt0 _).mono ?_
  rintro e u17 ⟨rfl, c17⟩
  have B := B.trans (c17.mono B.size)
  replace hz7 := hz7.below c17
  replace hz9 := hz9.below c17
  replace hz11 := hz11.below c17
  replace hz13 := hz13.below c17
  clear c17 hHeld
  have hHeld := KEEP _ B
  go_wp2_with fail
  refine hK.out _ _ (L3.AllL.kept hHeld) ?_
  clear hK K
  (try simp only [Act.put, List.setIfInBounds_toArray, List.set_cons_zero, List.set_cons_succ])
  refine L3.late_free 37 (v := .bool true) rfl (by kernel_rfl) (by kernel_rfl) (by kernel_rfl) (by kernel_rfl) (by kernel_rfl) (by kernel_rfl) (fun _ _ _ h => h) (Or.inl ⟨by rfl, ?_⟩) hHeld ?_
  · (intro u _; go_simp)
  (try simp only [Act.put, List.setIfInBounds_toArray, List.set_cons_zero, List.set_cons_succ])
  refine L3.late_free 38 (v := .bool true) rfl (by kernel_rfl) (by kernel_rfl) (by kernel_rfl) (by kernel_rfl) (by kernel_rfl) (by kernel_rfl) (fun _ _ _ h => h) (Or.inl ⟨by rfl, ?_⟩) hHeld ?_
  · (intro u _; go_simp)
  (try simp only [Act.put, List.setIfInBounds_toArray, List.set_cons_zero, List.set_cons_succ])
  refine L3.late_step 39 (by kernel_rfl) rfl (fun K hK => ?_)
  go_simp
  refine hK.out _ _ (L3.AllL.kept hHeld) ?_
  clear hK K
  (try simp only [Act.put, List.setIfInBounds_toArray, List.set_cons_zero, List.set_cons_succ])
  refine L3.late_done (by kernel_rfl) ?_ _
  clear hHeld KEEP
  have HE : Hid (Below w.heap.size w u17) := by rw [← HG.out]; exact bw.trans (B.mono zw)
  clear B hjd qjd hjf qjf hjh qjh hy2 qy bw zw hz7 hz9 hz11 hz13
  go_wp2
  go_ret
  exact ⟨rfl, HE.out⟩
end Go.Proofs.YtaafijifiiiblaaGreat
