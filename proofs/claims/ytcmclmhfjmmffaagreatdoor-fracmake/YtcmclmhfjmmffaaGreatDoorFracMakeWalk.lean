/-
  Proved here: the walk of FracMake.
-/
import Derived.Test.YtcmclmhfjmmffaaGreatDoorFracHAll
namespace Go.Proofs.YtcmclmhfjmmffaaGreatDoor
open Go.RowKit

theorem val_lt_of {xs : List Nat} {L : Nat} (h : limbs xs) (hl : xs.length ≤ L) : val xs < 4294967296 ^ L := Nat.lt_of_lt_of_le (val_lt h) (Nat.pow_le_pow_right (by decide) hl)
theorem i64_b3 {n : Int} (h : (Lit.int .i64 n).wf = true) : -9223372036854775808 ≤ n ∧ n ≤ 9223372036854775807 := by
  have h1 : IntKind.i64.min ≤ n ∧ n ≤ IntKind.i64.max := by simpa [Lit.wf] using h
  have e1 : IntKind.i64.min = -9223372036854775808 := by decide
  have e2 : IntKind.i64.max = 9223372036854775807 := by decide
  rw [e1, e2] at h1
  exact h1
set_option maxRecDepth 100000 in
set_option maxHeartbeats 6400000 in
theorem fracMake_top (na : Bool) (ao : Option Addr) (al ac : Nat) (xa : List Nat) (nb : Bool) (bo : Option Addr) (bl bc : Nat) (xb : List Nat) (n d : Int) (w : World) (ua : Num w (.slice ao al ac) xa) (ub : Num w (.slice bo bl bc) xb) (hn : (Lit.int .i64 n).wf = true) (hd : (Lit.int .i64 d).wf = true) :
    Calls Tryz.prog 4 #[.agg #[.bool na, .slice ao al ac], .agg #[.bool nb, .slice bo bl bc], .int .i64 n, .int .i64 d] w fun e w' => e = .returned (.bool true) ∧ Below w.heap.size w w' := by
  obtain ⟨hn1, hn2⟩ := i64_b3 hn
  obtain ⟨hd1, hd2⟩ := i64_b3 hd
  have HNB : Hid ((-9223372036854775808 ≤ n ∧ n ≤ 9223372036854775807) ∧ -9223372036854775808 ≤ d ∧ d ≤ 9223372036854775807) := ⟨⟨hn1, hn2⟩, hd1, hd2⟩
  clear hn hd hn1 hn2 hd1 hd2
  have hxl := (num_len ua).1
  have hyl := (num_len ub).1
  have ua2 := num_cut ua (k := min al 40) (Nat.min_le_left _ _)
  have ub2 := num_cut ub (k := min bl 40) (Nat.min_le_left _ _)
  have HLA : Hid ((xa.take (min al 40)).length ≤ 40) := by show _ ≤ _; rw [List.length_take]; omega
  have HLB : Hid ((xb.take (min bl 40)).length ≤ 40) := by show _ ≤ _; rw [List.length_take]; omega
  clear hxl hyl
  obtain ⟨W1, hW1⟩ : ∃ W1, W1 = (w.alloc (.cells #[.bool na, .slice ao al ac] 25)).alloc (.cells #[.bool nb, .slice bo bl bc] 25) := ⟨_, rfl⟩
  have qa : ICell W1 (w.heap.size) na (.slice ao al ac) := by rw [hW1]; exact (icell_step (icell_new _ (by simp)))
  have qb : ICell W1 (w.heap.size + 1) nb (.slice bo bl bc) := by rw [hW1]; exact (icell_new _ (by simp))
  have hb : Below w.heap.size w W1 := by rw [hW1]; exact bstep (belowA w _) (belowA _ _)
  have hsz : w.heap.size + 1 < W1.heap.size := by rw [hW1]; simp
  have HW1 : Hid (W1 = (w.alloc (.cells #[.bool na, .slice ao al ac] 25)).alloc (.cells #[.bool nb, .slice bo bl bc] 25)) := hW1
  clear hW1
  go_enter Tryz.func4, Tryz.ntmps4
  go_wp2_with fail
  rw [← HW1.out]
  clear HW1
  obtain ⟨g, hg⟩ : ∃ g, g = w.heap.size := ⟨_, rfl⟩
  rw [← hg] at qa qb hsz ⊢
  have HG : Hid (g = w.heap.size) := hg
  clear hg
  refine (l_awake).mono ?_
  rintro e w2 ⟨rfl, b⟩
  replace qa := qa.below b
  replace qb := qb.below b
  replace hb := bstep hb b
  replace hsz := Nat.lt_of_lt_of_le hsz b.size
  clear b
  obtain ⟨cqa0, cqa1⟩ := qa.cells
  obtain ⟨cqb0, cqb1⟩ := qb.cells
  go_wp2_with fail
  clear cqa0 cqa1 cqb0 cqb1
  refine (cutInt3 na ao al ac xa _ (ua.below (Nat.le_refl _) hb)).mono ?_
  rintro e w3 ⟨rfl, b⟩
  replace qa := qa.below b
  replace qb := qb.below b
  replace hb := bstep hb b
  replace hsz := Nat.lt_of_lt_of_le hsz b.size
  clear b
  generalize min al 40 = al2 at *
  generalize xa.take al2 = xa2 at *
  obtain ⟨y0, y1⟩ := qa.cells
  have f0 := qa.thaw 0
  have f1 := qa.thaw 1
  obtain ⟨X4, hX4⟩ : ∃ X, X = ((w3.setCell ⟨g, 0, none⟩ (.bool na)).setCell ⟨g, 1, none⟩ (.slice ao al2 ac)) := ⟨_, rfl⟩
  have qa_ : ICell X4 (g) na (.slice ao al2 ac) := by rw [hX4]; exact qa.write _ _
  have qb_ : ICell X4 (g + 1) nb (.slice bo bl bc) := by rw [hX4]; exact (qb.other (by omega) _ _).other (by omega) _ _
  replace hb : Below w.heap.size w X4 := by rw [hX4]; exact iend2 hb (by rw [HG.out]; omega)
  replace hsz : g + 1 < X4.heap.size := by rw [hX4]; simpa [World.setCell] using hsz
  replace qa := qa_
  clear qa_
  have rqa0 : (((w3.setCell ⟨g, 0, none⟩ (.bool na)).setCell ⟨g, 1, none⟩ (.slice ao al2 ac))).cell? ⟨g, 0, none⟩ = some (.bool na) := by rw [← hX4]; exact qa.cells.1
  have rqa1 : (((w3.setCell ⟨g, 0, none⟩ (.bool na)).setCell ⟨g, 1, none⟩ (.slice ao al2 ac))).cell? ⟨g, 1, none⟩ = some (.slice ao al2 ac) := by rw [← hX4]; exact qa.cells.2
  replace qb := qb_
  clear qb_
  have rqb0 : (((w3.setCell ⟨g, 0, none⟩ (.bool na)).setCell ⟨g, 1, none⟩ (.slice ao al2 ac))).cell? ⟨g + 1, 0, none⟩ = some (.bool nb) := by rw [← hX4]; exact qb.cells.1
  have rqb1 : (((w3.setCell ⟨g, 0, none⟩ (.bool na)).setCell ⟨g, 1, none⟩ (.slice ao al2 ac))).cell? ⟨g + 1, 1, none⟩ = some (.slice bo bl bc) := by rw [← hX4]; exact qb.cells.2
  have HX4 : Hid (X4 = ((w3.setCell ⟨g, 0, none⟩ (.bool na)).setCell ⟨g, 1, none⟩ (.slice ao al2 ac))) := hX4
  clear hX4
  go_wp2_with fail
  rw [← HX4.out]
  clear HX4 y0 y1 f0 f1 rqa0 rqa1 rqb0 rqb1
  refine (cutInt3 nb bo bl bc xb _ (ub.below (Nat.le_refl _) hb)).mono ?_
  rintro e w5 ⟨rfl, b⟩
  replace qa := qa.below b
  replace qb := qb.below b
  replace hb := bstep hb b
  replace hsz := Nat.lt_of_lt_of_le hsz b.size
  clear b
  generalize min bl 40 = bl2 at *
  generalize xb.take bl2 = xb2 at *
  obtain ⟨y0, y1⟩ := qb.cells
  have f0 := qb.thaw 0
  have f1 := qb.thaw 1
  obtain ⟨X6, hX6⟩ : ∃ X, X = ((w5.setCell ⟨g + 1, 0, none⟩ (.bool nb)).setCell ⟨g + 1, 1, none⟩ (.slice bo bl2 bc)) := ⟨_, rfl⟩
  have qb_ : ICell X6 (g + 1) nb (.slice bo bl2 bc) := by rw [hX6]; exact qb.write _ _
  have qa_ : ICell X6 (g) na (.slice ao al2 ac) := by rw [hX6]; exact (qa.other (by omega) _ _).other (by omega) _ _
  replace hb : Below w.heap.size w X6 := by rw [hX6]; exact iend2 hb (by rw [HG.out]; omega)
  replace hsz : g + 1 < X6.heap.size := by rw [hX6]; simpa [World.setCell] using hsz
  replace qa := qa_
  clear qa_
  have rqa0 : (((w5.setCell ⟨g + 1, 0, none⟩ (.bool nb)).setCell ⟨g + 1, 1, none⟩ (.slice bo bl2 bc))).cell? ⟨g, 0, none⟩ = some (.bool na) := by rw [← hX6]; exact qa.cells.1
  have rqa1 : (((w5.setCell ⟨g + 1, 0, none⟩ (.bool nb)).setCell ⟨g + 1, 1, none⟩ (.slice bo bl2 bc))).cell? ⟨g, 1, none⟩ = some (.slice ao al2 ac) := by rw [← hX6]; exact qa.cells.2
  replace qb := qb_
  clear qb_
  have rqb0 : (((w5.setCell ⟨g + 1, 0, none⟩ (.bool nb)).setCell ⟨g + 1, 1, none⟩ (.slice bo bl2 bc))).cell? ⟨g + 1, 0, none⟩ = some (.bool nb) := by rw [← hX6]; exact qb.cells.1
  have rqb1 : (((w5.setCell ⟨g + 1, 0, none⟩ (.bool nb)).setCell ⟨g + 1, 1, none⟩ (.slice bo bl2 bc))).cell? ⟨g + 1, 1, none⟩ = some (.slice bo bl2 bc) := by rw [← hX6]; exact qb.cells.2
  have HX6 : Hid (X6 = ((w5.setCell ⟨g + 1, 0, none⟩ (.bool nb)).setCell ⟨g + 1, 1, none⟩ (.slice bo bl2 bc))) := hX6
  clear hX6
  go_wp2_with fail
  rw [← HX6.out]
  clear HX6 y0 y1 f0 f1 rqa0 rqa1 rqb0 rqb1
  clear ua ub
  have ua := ua2.below (Nat.le_refl _) hb
  have ub := ub2.below (Nat.le_refl _) hb
  have HUA : Hid (Num w (.slice ao al2 ac) xa2) := ua2
  have HUB : Hid (Num w (.slice bo bl2 bc) xb2) := ub2
  clear ua2 ub2
  refine (lendInt3 na ao al2 ac xa2 _ ua (Nat.le_trans HLA.out (by decide))).mono ?_
  rintro e w7 ⟨v, rfl, ra, b⟩
  obtain ⟨uo, ul, uc, rfl⟩ := ra.own.sl
  replace ua := ua.below (Nat.le_refl _) b
  replace ub := ub.below (Nat.le_refl _) b
  replace qa := qa.below b
  replace qb := qb.below b
  replace hb := bstep hb b
  replace hsz := Nat.lt_of_lt_of_le hsz b.size
  clear b
  have hq0 : ICell (w7.alloc (.cells #[.bool false, .slice none 0 0] 25)) w7.heap.size false (.slice none 0 0) := icell_new _ rfl
  obtain ⟨W8, hW8⟩ : ∃ W, W = w7.alloc (.cells #[.bool na, .slice uo ul uc] 25) := ⟨_, rfl⟩
  have qu : ICell W8 (w7.heap.size) na (.slice uo ul uc) := by rw [hW8]; exact icell_new _ rfl
  have b : Below w7.heap.size w7 W8 := by rw [hW8]; exact belowA _ _
  obtain ⟨z0, z1⟩ := hq0.cells
  have t0 := hq0.thaw 0
  have t1 := hq0.thaw 1
  clear hq0
  replace ua := ua.below (Nat.le_refl _) b
  replace ub := ub.below (Nat.le_refl _) b
  replace ra := ra.below b
  replace qa := qa.below b
  replace qb := qb.below b
  replace hb := bstep hb b
  replace hsz := Nat.lt_of_lt_of_le hsz b.size
  clear b
  have rqa0 : (w7.alloc (.cells #[.bool na, .slice uo ul uc] 25)).cell? ⟨g, 0, none⟩ = some (.bool na) := by rw [← hW8]; exact qa.cells.1
  have rqa1 : (w7.alloc (.cells #[.bool na, .slice uo ul uc] 25)).cell? ⟨g, 1, none⟩ = some (.slice ao al2 ac) := by rw [← hW8]; exact qa.cells.2
  have rqb0 : (w7.alloc (.cells #[.bool na, .slice uo ul uc] 25)).cell? ⟨g + 1, 0, none⟩ = some (.bool nb) := by rw [← hW8]; exact qb.cells.1
  have rqb1 : (w7.alloc (.cells #[.bool na, .slice uo ul uc] 25)).cell? ⟨g + 1, 1, none⟩ = some (.slice bo bl2 bc) := by rw [← hW8]; exact qb.cells.2
  have rqu0 : (w7.alloc (.cells #[.bool na, .slice uo ul uc] 25)).cell? ⟨w7.heap.size, 0, none⟩ = some (.bool na) := by rw [← hW8]; exact qu.cells.1
  have rqu1 : (w7.alloc (.cells #[.bool na, .slice uo ul uc] 25)).cell? ⟨w7.heap.size, 1, none⟩ = some (.slice uo ul uc) := by rw [← hW8]; exact qu.cells.2
  obtain ⟨v8, hv8⟩ : ∃ v, v = w7.heap.size := ⟨_, rfl⟩
  rw [← hv8] at qu
  have HW8 : Hid (W8 = w7.alloc (.cells #[.bool na, .slice uo ul uc] 25)) := hW8
  have Hv8 : Hid (v8 = w7.heap.size) := hv8
  clear hW8 hv8
  go_wp2_with fail
  rw [← HW8.out, ← Hv8.out]
  clear HW8 Hv8 z0 t0 z1 t1 rqa0 rqa1 rqb0 rqb1 rqu0 rqu1 
  refine (lendInt3 nb bo bl2 bc xb2 _ ub (Nat.le_trans HLB.out (by decide))).mono ?_
  rintro e w9 ⟨v, rfl, rb, b⟩
  obtain ⟨vo, vl, vc, rfl⟩ := rb.own.sl
  replace ua := ua.below (Nat.le_refl _) b
  replace ub := ub.below (Nat.le_refl _) b
  replace ra := ra.below b
  replace qa := qa.below b
  replace qb := qb.below b
  replace qu := qu.below b
  replace hb := bstep hb b
  replace hsz := Nat.lt_of_lt_of_le hsz b.size
  clear b
  have hq0 : ICell (w9.alloc (.cells #[.bool false, .slice none 0 0] 25)) w9.heap.size false (.slice none 0 0) := icell_new _ rfl
  obtain ⟨W10, hW10⟩ : ∃ W, W = w9.alloc (.cells #[.bool nb, .slice vo vl vc] 25) := ⟨_, rfl⟩
  have qv : ICell W10 (w9.heap.size) nb (.slice vo vl vc) := by rw [hW10]; exact icell_new _ rfl
  have b : Below w9.heap.size w9 W10 := by rw [hW10]; exact belowA _ _
  obtain ⟨z0, z1⟩ := hq0.cells
  have t0 := hq0.thaw 0
  have t1 := hq0.thaw 1
  clear hq0
  replace ua := ua.below (Nat.le_refl _) b
  replace ub := ub.below (Nat.le_refl _) b
  replace ra := ra.below b
  replace rb := rb.below b
  replace qa := qa.below b
  replace qb := qb.below b
  replace qu := qu.below b
  replace hb := bstep hb b
  replace hsz := Nat.lt_of_lt_of_le hsz b.size
  clear b
  have rqa0 : (w9.alloc (.cells #[.bool nb, .slice vo vl vc] 25)).cell? ⟨g, 0, none⟩ = some (.bool na) := by rw [← hW10]; exact qa.cells.1
  have rqa1 : (w9.alloc (.cells #[.bool nb, .slice vo vl vc] 25)).cell? ⟨g, 1, none⟩ = some (.slice ao al2 ac) := by rw [← hW10]; exact qa.cells.2
  have rqb0 : (w9.alloc (.cells #[.bool nb, .slice vo vl vc] 25)).cell? ⟨g + 1, 0, none⟩ = some (.bool nb) := by rw [← hW10]; exact qb.cells.1
  have rqb1 : (w9.alloc (.cells #[.bool nb, .slice vo vl vc] 25)).cell? ⟨g + 1, 1, none⟩ = some (.slice bo bl2 bc) := by rw [← hW10]; exact qb.cells.2
  have rqu0 : (w9.alloc (.cells #[.bool nb, .slice vo vl vc] 25)).cell? ⟨v8, 0, none⟩ = some (.bool na) := by rw [← hW10]; exact qu.cells.1
  have rqu1 : (w9.alloc (.cells #[.bool nb, .slice vo vl vc] 25)).cell? ⟨v8, 1, none⟩ = some (.slice uo ul uc) := by rw [← hW10]; exact qu.cells.2
  have rqv0 : (w9.alloc (.cells #[.bool nb, .slice vo vl vc] 25)).cell? ⟨w9.heap.size, 0, none⟩ = some (.bool nb) := by rw [← hW10]; exact qv.cells.1
  have rqv1 : (w9.alloc (.cells #[.bool nb, .slice vo vl vc] 25)).cell? ⟨w9.heap.size, 1, none⟩ = some (.slice vo vl vc) := by rw [← hW10]; exact qv.cells.2
  obtain ⟨v10, hv10⟩ : ∃ v, v = w9.heap.size := ⟨_, rfl⟩
  rw [← hv10] at qv
  have HW10 : Hid (W10 = w9.alloc (.cells #[.bool nb, .slice vo vl vc] 25)) := hW10
  have Hv10 : Hid (v10 = w9.heap.size) := hv10
  clear hW10 hv10
  go_wp2_with fail
  rw [← HW10.out, ← Hv10.out]
  clear HW10 Hv10 z0 t0 z1 t1 rqa0 rqa1 rqb0 rqb1 rqu0 rqu1 rqv0 rqv1 
  obtain ⟨B0, hB0e⟩ : ∃ B, B = W10.heap.size := ⟨_, rfl⟩
  have hB0 : B0 ≤ W10.heap.size := Nat.le_of_eq hB0e
  have HWB : Hid (w.heap.size ≤ B0) := by show _ ≤ _; rw [hB0e]; exact hb.size
  have C1 := fun W h1 h2 => ((newF (w := W) (a := .agg #[.bool na, .slice uo ul uc]) (b := .agg #[.bool nb, .slice vo vl vc]) ⟨_, _, _, _, xa2, rfl, h1, Nat.le_trans HLA.out (by decide), rfl⟩ ⟨_, _, _, _, xb2, rfl, h2, Nat.le_trans HLB.out (by decide), rfl⟩).mono fun _ _ h => h.x)
  have C2 := fun W h1 h2 => ((newR (w := W) (a := .agg #[.bool na, .slice ao al2 ac]) (b := .agg #[.bool nb, .slice bo bl2 bc]) ⟨_, _, _, _, xa2, rfl, h1, Nat.le_trans HLA.out (by decide), rfl⟩ ⟨_, _, _, _, xb2, rfl, h2, Nat.le_trans HLB.out (by decide), rfl⟩).mono fun _ _ h => h.x)
  have C3 := fun W => ((ofF (w := W) HNB.out.1.1 HNB.out.1.2 HNB.out.2.1 HNB.out.2.2).mono fun _ _ h => h.x)
  have C4 := fun W => ((ofR (w := W) HNB.out.1.1 HNB.out.1.2 HNB.out.2.1 HNB.out.2.2).mono fun _ _ h => h.x)
  have HL1 : Hid ((nM (zv na (val xa2)) (zv nb (val xb2))).length ≤ 40 ∧ (nD (zv na (val xa2)) (zv nb (val xb2))).length ≤ 40) := nM_len (val_lt_of ua.1 HLA.out) (val_lt_of ub.1 HLB.out)
  have HL2 : Hid ((nM n d).length ≤ 2 ∧ (nD n d).length ≤ 2) := nM_len_int HNB.out.1.1 HNB.out.1.2 HNB.out.2.1 HNB.out.2.2
  generalize nS (zv na (val xa2)) (zv nb (val xb2)) = s1 at *
  generalize nE (zv nb (val xb2)) = e1 at *
  generalize nM (zv na (val xa2)) (zv nb (val xb2)) = xm at *
  generalize nD (zv na (val xa2)) (zv nb (val xb2)) = xd at *
  generalize nS n d = s2 at *
  generalize nE d = e2 at *
  generalize nM n d = zm at *
  generalize nD n d = zd at *
  obtain ⟨lx, hlx⟩ : ∃ l, l = xm.length := ⟨_, rfl⟩
  have Hlx : Hid (lx = xm.length) := hlx
  obtain ⟨lX, hlX⟩ : ∃ l, l = xd.length := ⟨_, rfl⟩
  have HlX : Hid (lX = xd.length) := hlX
  obtain ⟨lz, hlz⟩ : ∃ l, l = zm.length := ⟨_, rfl⟩
  have Hlz : Hid (lz = zm.length) := hlz
  obtain ⟨lZ, hlZ⟩ : ∃ l, l = zd.length := ⟨_, rfl⟩
  have HlZ : Hid (lZ = zd.length) := hlZ
  have C1 := C1
  unfold TEx at C1 C2 C3 C4
  simp only [← hlx, ← hlX] at C1 C2
  simp only [← hlz, ← hlZ] at C3 C4
  clear hlx hlX hlz hlZ
  refine (C1 _ ra.own.num rb.own.num).mono ?_
  rintro e w11 ⟨mxo, mxc, dxo, dxc, rfl, hmx, hdx, px, b⟩
  clear C1
  rw [← hB0e] at hmx hdx
  have pa1 := apart_later ra.own hmx (Nat.le_of_eq hB0e.symm)
  have pa2 := apart_later ra.own hdx (Nat.le_of_eq hB0e.symm)
  have pb1 := apart_later rb.own hmx (Nat.le_of_eq hB0e.symm)
  have pb2 := apart_later rb.own hdx (Nat.le_of_eq hB0e.symm)
  clear hB0e
  replace ua := ua.below (Nat.le_refl _) b
  replace ub := ub.below (Nat.le_refl _) b
  replace ra := ra.below b
  replace rb := rb.below b
  replace hB0 := Nat.le_trans hB0 b.size
  replace qa := qa.below b
  replace qb := qb.below b
  replace qu := qu.below b
  replace qv := qv.below b
  replace hb := bstep hb b
  replace hsz := Nat.lt_of_lt_of_le hsz b.size
  clear b
  have hq0 : QCell (w11.alloc (.cells #[.bool false, .slice none 0 0, .slice none 0 0] 27)) w11.heap.size false (.slice none 0 0) (.slice none 0 0) := qcell_new _ rfl
  obtain ⟨W12, hW12⟩ : ∃ W, W = w11.alloc (.cells #[.bool s1, .slice mxo lx mxc, .slice dxo lX dxc] 27) := ⟨_, rfl⟩
  have qx : QCell W12 (w11.heap.size) s1 (.slice mxo lx mxc) (.slice dxo lX dxc) := by rw [hW12]; exact qcell_new _ rfl
  have b : Below w11.heap.size w11 W12 := by rw [hW12]; exact belowA _ _
  obtain ⟨z0, z1, z2⟩ := hq0.cells
  have t0 := hq0.thaw 0
  have t1 := hq0.thaw 1
  have t2 := hq0.thaw 2
  clear hq0
  replace ua := ua.below (Nat.le_refl _) b
  replace ub := ub.below (Nat.le_refl _) b
  replace ra := ra.below b
  replace rb := rb.below b
  replace hB0 := Nat.le_trans hB0 b.size
  replace hmx := hmx.below b
  replace hdx := hdx.below b
  replace qa := qa.below b
  replace qb := qb.below b
  replace qu := qu.below b
  replace qv := qv.below b
  replace hb := bstep hb b
  replace hsz := Nat.lt_of_lt_of_le hsz b.size
  clear b
  have rqa0 : (w11.alloc (.cells #[.bool s1, .slice mxo lx mxc, .slice dxo lX dxc] 27)).cell? ⟨g, 0, none⟩ = some (.bool na) := by rw [← hW12]; exact qa.cells.1
  have rqa1 : (w11.alloc (.cells #[.bool s1, .slice mxo lx mxc, .slice dxo lX dxc] 27)).cell? ⟨g, 1, none⟩ = some (.slice ao al2 ac) := by rw [← hW12]; exact qa.cells.2
  have rqb0 : (w11.alloc (.cells #[.bool s1, .slice mxo lx mxc, .slice dxo lX dxc] 27)).cell? ⟨g + 1, 0, none⟩ = some (.bool nb) := by rw [← hW12]; exact qb.cells.1
  have rqb1 : (w11.alloc (.cells #[.bool s1, .slice mxo lx mxc, .slice dxo lX dxc] 27)).cell? ⟨g + 1, 1, none⟩ = some (.slice bo bl2 bc) := by rw [← hW12]; exact qb.cells.2
  have rqu0 : (w11.alloc (.cells #[.bool s1, .slice mxo lx mxc, .slice dxo lX dxc] 27)).cell? ⟨v8, 0, none⟩ = some (.bool na) := by rw [← hW12]; exact qu.cells.1
  have rqu1 : (w11.alloc (.cells #[.bool s1, .slice mxo lx mxc, .slice dxo lX dxc] 27)).cell? ⟨v8, 1, none⟩ = some (.slice uo ul uc) := by rw [← hW12]; exact qu.cells.2
  have rqv0 : (w11.alloc (.cells #[.bool s1, .slice mxo lx mxc, .slice dxo lX dxc] 27)).cell? ⟨v10, 0, none⟩ = some (.bool nb) := by rw [← hW12]; exact qv.cells.1
  have rqv1 : (w11.alloc (.cells #[.bool s1, .slice mxo lx mxc, .slice dxo lX dxc] 27)).cell? ⟨v10, 1, none⟩ = some (.slice vo vl vc) := by rw [← hW12]; exact qv.cells.2
  have rqx0 : (w11.alloc (.cells #[.bool s1, .slice mxo lx mxc, .slice dxo lX dxc] 27)).cell? ⟨w11.heap.size, 0, none⟩ = some (.bool s1) := by rw [← hW12]; exact qx.cells.1
  have rqx1 : (w11.alloc (.cells #[.bool s1, .slice mxo lx mxc, .slice dxo lX dxc] 27)).cell? ⟨w11.heap.size, 1, none⟩ = some (.slice mxo lx mxc) := by rw [← hW12]; exact qx.cells.2.1
  have rqx2 : (w11.alloc (.cells #[.bool s1, .slice mxo lx mxc, .slice dxo lX dxc] 27)).cell? ⟨w11.heap.size, 2, none⟩ = some (.slice dxo lX dxc) := by rw [← hW12]; exact qx.cells.2.2
  obtain ⟨v12, hv12⟩ : ∃ v, v = w11.heap.size := ⟨_, rfl⟩
  rw [← hv12] at qx
  have HW12 : Hid (W12 = w11.alloc (.cells #[.bool s1, .slice mxo lx mxc, .slice dxo lX dxc] 27)) := hW12
  have Hv12 : Hid (v12 = w11.heap.size) := hv12
  clear hW12 hv12
  go_wp2_with fail
  rw [← HW12.out, ← Hv12.out]
  clear HW12 Hv12 z0 t0 z1 t1 z2 t2 rqa0 rqa1 rqb0 rqb1 rqu0 rqu1 rqv0 rqv1 rqx0 rqx1 rqx2 
  refine (C2 _ ua ub).mono ?_
  rintro e w13 ⟨myo, myc, dyo, dyc, rfl, hmy, hdy, _, b⟩
  clear C2
  replace hmy := hmy.num
  replace hdy := hdy.num
  replace ua := ua.below (Nat.le_refl _) b
  replace ub := ub.below (Nat.le_refl _) b
  replace ra := ra.below b
  replace rb := rb.below b
  replace hB0 := Nat.le_trans hB0 b.size
  replace hmx := hmx.below b
  replace hdx := hdx.below b
  replace qa := qa.below b
  replace qb := qb.below b
  replace qu := qu.below b
  replace qv := qv.below b
  replace qx := qx.below b
  replace hb := bstep hb b
  replace hsz := Nat.lt_of_lt_of_le hsz b.size
  clear b
  have hq0 : QCell (w13.alloc (.cells #[.bool false, .slice none 0 0, .slice none 0 0] 27)) w13.heap.size false (.slice none 0 0) (.slice none 0 0) := qcell_new _ rfl
  obtain ⟨W14, hW14⟩ : ∃ W, W = w13.alloc (.cells #[.bool s1, .slice myo lx myc, .slice dyo lX dyc] 27) := ⟨_, rfl⟩
  have qy : QCell W14 (w13.heap.size) s1 (.slice myo lx myc) (.slice dyo lX dyc) := by rw [hW14]; exact qcell_new _ rfl
  have b : Below w13.heap.size w13 W14 := by rw [hW14]; exact belowA _ _
  obtain ⟨z0, z1, z2⟩ := hq0.cells
  have t0 := hq0.thaw 0
  have t1 := hq0.thaw 1
  have t2 := hq0.thaw 2
  clear hq0
  replace ua := ua.below (Nat.le_refl _) b
  replace ub := ub.below (Nat.le_refl _) b
  replace ra := ra.below b
  replace rb := rb.below b
  replace hB0 := Nat.le_trans hB0 b.size
  replace hmx := hmx.below b
  replace hdx := hdx.below b
  replace hmy := hmy.below (Nat.le_refl _) b
  replace hdy := hdy.below (Nat.le_refl _) b
  replace qa := qa.below b
  replace qb := qb.below b
  replace qu := qu.below b
  replace qv := qv.below b
  replace qx := qx.below b
  replace hb := bstep hb b
  replace hsz := Nat.lt_of_lt_of_le hsz b.size
  clear b
  have rqa0 : (w13.alloc (.cells #[.bool s1, .slice myo lx myc, .slice dyo lX dyc] 27)).cell? ⟨g, 0, none⟩ = some (.bool na) := by rw [← hW14]; exact qa.cells.1
  have rqa1 : (w13.alloc (.cells #[.bool s1, .slice myo lx myc, .slice dyo lX dyc] 27)).cell? ⟨g, 1, none⟩ = some (.slice ao al2 ac) := by rw [← hW14]; exact qa.cells.2
  have rqb0 : (w13.alloc (.cells #[.bool s1, .slice myo lx myc, .slice dyo lX dyc] 27)).cell? ⟨g + 1, 0, none⟩ = some (.bool nb) := by rw [← hW14]; exact qb.cells.1
  have rqb1 : (w13.alloc (.cells #[.bool s1, .slice myo lx myc, .slice dyo lX dyc] 27)).cell? ⟨g + 1, 1, none⟩ = some (.slice bo bl2 bc) := by rw [← hW14]; exact qb.cells.2
  have rqu0 : (w13.alloc (.cells #[.bool s1, .slice myo lx myc, .slice dyo lX dyc] 27)).cell? ⟨v8, 0, none⟩ = some (.bool na) := by rw [← hW14]; exact qu.cells.1
  have rqu1 : (w13.alloc (.cells #[.bool s1, .slice myo lx myc, .slice dyo lX dyc] 27)).cell? ⟨v8, 1, none⟩ = some (.slice uo ul uc) := by rw [← hW14]; exact qu.cells.2
  have rqv0 : (w13.alloc (.cells #[.bool s1, .slice myo lx myc, .slice dyo lX dyc] 27)).cell? ⟨v10, 0, none⟩ = some (.bool nb) := by rw [← hW14]; exact qv.cells.1
  have rqv1 : (w13.alloc (.cells #[.bool s1, .slice myo lx myc, .slice dyo lX dyc] 27)).cell? ⟨v10, 1, none⟩ = some (.slice vo vl vc) := by rw [← hW14]; exact qv.cells.2
  have rqx0 : (w13.alloc (.cells #[.bool s1, .slice myo lx myc, .slice dyo lX dyc] 27)).cell? ⟨v12, 0, none⟩ = some (.bool s1) := by rw [← hW14]; exact qx.cells.1
  have rqx1 : (w13.alloc (.cells #[.bool s1, .slice myo lx myc, .slice dyo lX dyc] 27)).cell? ⟨v12, 1, none⟩ = some (.slice mxo lx mxc) := by rw [← hW14]; exact qx.cells.2.1
  have rqx2 : (w13.alloc (.cells #[.bool s1, .slice myo lx myc, .slice dyo lX dyc] 27)).cell? ⟨v12, 2, none⟩ = some (.slice dxo lX dxc) := by rw [← hW14]; exact qx.cells.2.2
  have rqy0 : (w13.alloc (.cells #[.bool s1, .slice myo lx myc, .slice dyo lX dyc] 27)).cell? ⟨w13.heap.size, 0, none⟩ = some (.bool s1) := by rw [← hW14]; exact qy.cells.1
  have rqy1 : (w13.alloc (.cells #[.bool s1, .slice myo lx myc, .slice dyo lX dyc] 27)).cell? ⟨w13.heap.size, 1, none⟩ = some (.slice myo lx myc) := by rw [← hW14]; exact qy.cells.2.1
  have rqy2 : (w13.alloc (.cells #[.bool s1, .slice myo lx myc, .slice dyo lX dyc] 27)).cell? ⟨w13.heap.size, 2, none⟩ = some (.slice dyo lX dyc) := by rw [← hW14]; exact qy.cells.2.2
  obtain ⟨v14, hv14⟩ : ∃ v, v = w13.heap.size := ⟨_, rfl⟩
  rw [← hv14] at qy
  have HW14 : Hid (W14 = w13.alloc (.cells #[.bool s1, .slice myo lx myc, .slice dyo lX dyc] 27)) := hW14
  have Hv14 : Hid (v14 = w13.heap.size) := hv14
  clear hW14 hv14
  go_wp2_with fail
  rw [← HW14.out, ← Hv14.out]
  clear HW14 Hv14 z0 t0 z1 t1 z2 t2 rqa0 rqa1 rqb0 rqb1 rqu0 rqu1 rqv0 rqv1 rqx0 rqx1 rqx2 rqy0 rqy1 rqy2 
  refine (C3 _).mono ?_
  rintro e w15 ⟨mzo, mzc, dzo, dzc, rfl, hmz, hdz, pz, b⟩
  clear C3
  have pa3 := apart_later ra.own hmz (Nat.le_refl _)
  have pa4 := apart_later ra.own hdz (Nat.le_refl _)
  have pb3 := apart_later rb.own hmz (Nat.le_refl _)
  have pb4 := apart_later rb.own hdz (Nat.le_refl _)
  have px1 := apart_later hmx hmz (Nat.le_refl _)
  have px2 := apart_later hmx hdz (Nat.le_refl _)
  have px3 := apart_later hdx hmz (Nat.le_refl _)
  have px4 := apart_later hdx hdz (Nat.le_refl _)
  replace hmz := hmz.mono hB0
  replace hdz := hdz.mono hB0
  replace ua := ua.below (Nat.le_refl _) b
  replace ub := ub.below (Nat.le_refl _) b
  replace ra := ra.below b
  replace rb := rb.below b
  replace hB0 := Nat.le_trans hB0 b.size
  replace hmx := hmx.below b
  replace hdx := hdx.below b
  replace hmy := hmy.below (Nat.le_refl _) b
  replace hdy := hdy.below (Nat.le_refl _) b
  replace qa := qa.below b
  replace qb := qb.below b
  replace qu := qu.below b
  replace qv := qv.below b
  replace qx := qx.below b
  replace qy := qy.below b
  replace hb := bstep hb b
  replace hsz := Nat.lt_of_lt_of_le hsz b.size
  clear b
  have hq0 : QCell (w15.alloc (.cells #[.bool false, .slice none 0 0, .slice none 0 0] 27)) w15.heap.size false (.slice none 0 0) (.slice none 0 0) := qcell_new _ rfl
  obtain ⟨W16, hW16⟩ : ∃ W, W = w15.alloc (.cells #[.bool s2, .slice mzo lz mzc, .slice dzo lZ dzc] 27) := ⟨_, rfl⟩
  have qz : QCell W16 (w15.heap.size) s2 (.slice mzo lz mzc) (.slice dzo lZ dzc) := by rw [hW16]; exact qcell_new _ rfl
  have b : Below w15.heap.size w15 W16 := by rw [hW16]; exact belowA _ _
  obtain ⟨z0, z1, z2⟩ := hq0.cells
  have t0 := hq0.thaw 0
  have t1 := hq0.thaw 1
  have t2 := hq0.thaw 2
  clear hq0
  replace ua := ua.below (Nat.le_refl _) b
  replace ub := ub.below (Nat.le_refl _) b
  replace ra := ra.below b
  replace rb := rb.below b
  replace hB0 := Nat.le_trans hB0 b.size
  replace hmx := hmx.below b
  replace hdx := hdx.below b
  replace hmy := hmy.below (Nat.le_refl _) b
  replace hdy := hdy.below (Nat.le_refl _) b
  replace hmz := hmz.below b
  replace hdz := hdz.below b
  replace qa := qa.below b
  replace qb := qb.below b
  replace qu := qu.below b
  replace qv := qv.below b
  replace qx := qx.below b
  replace qy := qy.below b
  replace hb := bstep hb b
  replace hsz := Nat.lt_of_lt_of_le hsz b.size
  clear b
  have rqa0 : (w15.alloc (.cells #[.bool s2, .slice mzo lz mzc, .slice dzo lZ dzc] 27)).cell? ⟨g, 0, none⟩ = some (.bool na) := by rw [← hW16]; exact qa.cells.1
  have rqa1 : (w15.alloc (.cells #[.bool s2, .slice mzo lz mzc, .slice dzo lZ dzc] 27)).cell? ⟨g, 1, none⟩ = some (.slice ao al2 ac) := by rw [← hW16]; exact qa.cells.2
  have rqb0 : (w15.alloc (.cells #[.bool s2, .slice mzo lz mzc, .slice dzo lZ dzc] 27)).cell? ⟨g + 1, 0, none⟩ = some (.bool nb) := by rw [← hW16]; exact qb.cells.1
  have rqb1 : (w15.alloc (.cells #[.bool s2, .slice mzo lz mzc, .slice dzo lZ dzc] 27)).cell? ⟨g + 1, 1, none⟩ = some (.slice bo bl2 bc) := by rw [← hW16]; exact qb.cells.2
  have rqu0 : (w15.alloc (.cells #[.bool s2, .slice mzo lz mzc, .slice dzo lZ dzc] 27)).cell? ⟨v8, 0, none⟩ = some (.bool na) := by rw [← hW16]; exact qu.cells.1
  have rqu1 : (w15.alloc (.cells #[.bool s2, .slice mzo lz mzc, .slice dzo lZ dzc] 27)).cell? ⟨v8, 1, none⟩ = some (.slice uo ul uc) := by rw [← hW16]; exact qu.cells.2
  have rqv0 : (w15.alloc (.cells #[.bool s2, .slice mzo lz mzc, .slice dzo lZ dzc] 27)).cell? ⟨v10, 0, none⟩ = some (.bool nb) := by rw [← hW16]; exact qv.cells.1
  have rqv1 : (w15.alloc (.cells #[.bool s2, .slice mzo lz mzc, .slice dzo lZ dzc] 27)).cell? ⟨v10, 1, none⟩ = some (.slice vo vl vc) := by rw [← hW16]; exact qv.cells.2
  have rqx0 : (w15.alloc (.cells #[.bool s2, .slice mzo lz mzc, .slice dzo lZ dzc] 27)).cell? ⟨v12, 0, none⟩ = some (.bool s1) := by rw [← hW16]; exact qx.cells.1
  have rqx1 : (w15.alloc (.cells #[.bool s2, .slice mzo lz mzc, .slice dzo lZ dzc] 27)).cell? ⟨v12, 1, none⟩ = some (.slice mxo lx mxc) := by rw [← hW16]; exact qx.cells.2.1
  have rqx2 : (w15.alloc (.cells #[.bool s2, .slice mzo lz mzc, .slice dzo lZ dzc] 27)).cell? ⟨v12, 2, none⟩ = some (.slice dxo lX dxc) := by rw [← hW16]; exact qx.cells.2.2
  have rqy0 : (w15.alloc (.cells #[.bool s2, .slice mzo lz mzc, .slice dzo lZ dzc] 27)).cell? ⟨v14, 0, none⟩ = some (.bool s1) := by rw [← hW16]; exact qy.cells.1
  have rqy1 : (w15.alloc (.cells #[.bool s2, .slice mzo lz mzc, .slice dzo lZ dzc] 27)).cell? ⟨v14, 1, none⟩ = some (.slice myo lx myc) := by rw [← hW16]; exact qy.cells.2.1
  have rqy2 : (w15.alloc (.cells #[.bool s2, .slice mzo lz mzc, .slice dzo lZ dzc] 27)).cell? ⟨v14, 2, none⟩ = some (.slice dyo lX dyc) := by rw [← hW16]; exact qy.cells.2.2
  have rqz0 : (w15.alloc (.cells #[.bool s2, .slice mzo lz mzc, .slice dzo lZ dzc] 27)).cell? ⟨w15.heap.size, 0, none⟩ = some (.bool s2) := by rw [← hW16]; exact qz.cells.1
  have rqz1 : (w15.alloc (.cells #[.bool s2, .slice mzo lz mzc, .slice dzo lZ dzc] 27)).cell? ⟨w15.heap.size, 1, none⟩ = some (.slice mzo lz mzc) := by rw [← hW16]; exact qz.cells.2.1
  have rqz2 : (w15.alloc (.cells #[.bool s2, .slice mzo lz mzc, .slice dzo lZ dzc] 27)).cell? ⟨w15.heap.size, 2, none⟩ = some (.slice dzo lZ dzc) := by rw [← hW16]; exact qz.cells.2.2
  obtain ⟨v16, hv16⟩ : ∃ v, v = w15.heap.size := ⟨_, rfl⟩
  rw [← hv16] at qz
  have HW16 : Hid (W16 = w15.alloc (.cells #[.bool s2, .slice mzo lz mzc, .slice dzo lZ dzc] 27)) := hW16
  have Hv16 : Hid (v16 = w15.heap.size) := hv16
  clear hW16 hv16
  go_wp2_with fail
  rw [← HW16.out, ← Hv16.out]
  clear HW16 Hv16 z0 t0 z1 t1 z2 t2 rqa0 rqa1 rqb0 rqb1 rqu0 rqu1 rqv0 rqv1 rqx0 rqx1 rqx2 rqy0 rqy1 rqy2 rqz0 rqz1 rqz2 
  refine (C4 _).mono ?_
  rintro e w17 ⟨mwo, mwc, dwo, dwc, rfl, hmw, hdw, _, b⟩
  clear C4
  replace hmw := hmw.num
  replace hdw := hdw.num
  replace ua := ua.below (Nat.le_refl _) b
  replace ub := ub.below (Nat.le_refl _) b
  replace ra := ra.below b
  replace rb := rb.below b
  replace hB0 := Nat.le_trans hB0 b.size
  replace hmx := hmx.below b
  replace hdx := hdx.below b
  replace hmy := hmy.below (Nat.le_refl _) b
  replace hdy := hdy.below (Nat.le_refl _) b
  replace hmz := hmz.below b
  replace hdz := hdz.below b
  replace qa := qa.below b
  replace qb := qb.below b
  replace qu := qu.below b
  replace qv := qv.below b
  replace qx := qx.below b
  replace qy := qy.below b
  replace qz := qz.below b
  replace hb := bstep hb b
  replace hsz := Nat.lt_of_lt_of_le hsz b.size
  clear b
  have hq0 : QCell (w17.alloc (.cells #[.bool false, .slice none 0 0, .slice none 0 0] 27)) w17.heap.size false (.slice none 0 0) (.slice none 0 0) := qcell_new _ rfl
  obtain ⟨W18, hW18⟩ : ∃ W, W = w17.alloc (.cells #[.bool s2, .slice mwo lz mwc, .slice dwo lZ dwc] 27) := ⟨_, rfl⟩
  have qw : QCell W18 (w17.heap.size) s2 (.slice mwo lz mwc) (.slice dwo lZ dwc) := by rw [hW18]; exact qcell_new _ rfl
  have b : Below w17.heap.size w17 W18 := by rw [hW18]; exact belowA _ _
  obtain ⟨z0, z1, z2⟩ := hq0.cells
  have t0 := hq0.thaw 0
  have t1 := hq0.thaw 1
  have t2 := hq0.thaw 2
  clear hq0
  replace ua := ua.below (Nat.le_refl _) b
  replace ub := ub.below (Nat.le_refl _) b
  replace ra := ra.below b
  replace rb := rb.below b
  replace hB0 := Nat.le_trans hB0 b.size
  replace hmx := hmx.below b
  replace hdx := hdx.below b
  replace hmy := hmy.below (Nat.le_refl _) b
  replace hdy := hdy.below (Nat.le_refl _) b
  replace hmz := hmz.below b
  replace hdz := hdz.below b
  replace hmw := hmw.below (Nat.le_refl _) b
  replace hdw := hdw.below (Nat.le_refl _) b
  replace qa := qa.below b
  replace qb := qb.below b
  replace qu := qu.below b
  replace qv := qv.below b
  replace qx := qx.below b
  replace qy := qy.below b
  replace qz := qz.below b
  replace hb := bstep hb b
  replace hsz := Nat.lt_of_lt_of_le hsz b.size
  clear b
  have rqa0 : (w17.alloc (.cells #[.bool s2, .slice mwo lz mwc, .slice dwo lZ dwc] 27)).cell? ⟨g, 0, none⟩ = some (.bool na) := by rw [← hW18]; exact qa.cells.1
  have rqa1 : (w17.alloc (.cells #[.bool s2, .slice mwo lz mwc, .slice dwo lZ dwc] 27)).cell? ⟨g, 1, none⟩ = some (.slice ao al2 ac) := by rw [← hW18]; exact qa.cells.2
  have rqb0 : (w17.alloc (.cells #[.bool s2, .slice mwo lz mwc, .slice dwo lZ dwc] 27)).cell? ⟨g + 1, 0, none⟩ = some (.bool nb) := by rw [← hW18]; exact qb.cells.1
  have rqb1 : (w17.alloc (.cells #[.bool s2, .slice mwo lz mwc, .slice dwo lZ dwc] 27)).cell? ⟨g + 1, 1, none⟩ = some (.slice bo bl2 bc) := by rw [← hW18]; exact qb.cells.2
  have rqu0 : (w17.alloc (.cells #[.bool s2, .slice mwo lz mwc, .slice dwo lZ dwc] 27)).cell? ⟨v8, 0, none⟩ = some (.bool na) := by rw [← hW18]; exact qu.cells.1
  have rqu1 : (w17.alloc (.cells #[.bool s2, .slice mwo lz mwc, .slice dwo lZ dwc] 27)).cell? ⟨v8, 1, none⟩ = some (.slice uo ul uc) := by rw [← hW18]; exact qu.cells.2
  have rqv0 : (w17.alloc (.cells #[.bool s2, .slice mwo lz mwc, .slice dwo lZ dwc] 27)).cell? ⟨v10, 0, none⟩ = some (.bool nb) := by rw [← hW18]; exact qv.cells.1
  have rqv1 : (w17.alloc (.cells #[.bool s2, .slice mwo lz mwc, .slice dwo lZ dwc] 27)).cell? ⟨v10, 1, none⟩ = some (.slice vo vl vc) := by rw [← hW18]; exact qv.cells.2
  have rqx0 : (w17.alloc (.cells #[.bool s2, .slice mwo lz mwc, .slice dwo lZ dwc] 27)).cell? ⟨v12, 0, none⟩ = some (.bool s1) := by rw [← hW18]; exact qx.cells.1
  have rqx1 : (w17.alloc (.cells #[.bool s2, .slice mwo lz mwc, .slice dwo lZ dwc] 27)).cell? ⟨v12, 1, none⟩ = some (.slice mxo lx mxc) := by rw [← hW18]; exact qx.cells.2.1
  have rqx2 : (w17.alloc (.cells #[.bool s2, .slice mwo lz mwc, .slice dwo lZ dwc] 27)).cell? ⟨v12, 2, none⟩ = some (.slice dxo lX dxc) := by rw [← hW18]; exact qx.cells.2.2
  have rqy0 : (w17.alloc (.cells #[.bool s2, .slice mwo lz mwc, .slice dwo lZ dwc] 27)).cell? ⟨v14, 0, none⟩ = some (.bool s1) := by rw [← hW18]; exact qy.cells.1
  have rqy1 : (w17.alloc (.cells #[.bool s2, .slice mwo lz mwc, .slice dwo lZ dwc] 27)).cell? ⟨v14, 1, none⟩ = some (.slice myo lx myc) := by rw [← hW18]; exact qy.cells.2.1
  have rqy2 : (w17.alloc (.cells #[.bool s2, .slice mwo lz mwc, .slice dwo lZ dwc] 27)).cell? ⟨v14, 2, none⟩ = some (.slice dyo lX dyc) := by rw [← hW18]; exact qy.cells.2.2
  have rqz0 : (w17.alloc (.cells #[.bool s2, .slice mwo lz mwc, .slice dwo lZ dwc] 27)).cell? ⟨v16, 0, none⟩ = some (.bool s2) := by rw [← hW18]; exact qz.cells.1
  have rqz1 : (w17.alloc (.cells #[.bool s2, .slice mwo lz mwc, .slice dwo lZ dwc] 27)).cell? ⟨v16, 1, none⟩ = some (.slice mzo lz mzc) := by rw [← hW18]; exact qz.cells.2.1
  have rqz2 : (w17.alloc (.cells #[.bool s2, .slice mwo lz mwc, .slice dwo lZ dwc] 27)).cell? ⟨v16, 2, none⟩ = some (.slice dzo lZ dzc) := by rw [← hW18]; exact qz.cells.2.2
  have rqw0 : (w17.alloc (.cells #[.bool s2, .slice mwo lz mwc, .slice dwo lZ dwc] 27)).cell? ⟨w17.heap.size, 0, none⟩ = some (.bool s2) := by rw [← hW18]; exact qw.cells.1
  have rqw1 : (w17.alloc (.cells #[.bool s2, .slice mwo lz mwc, .slice dwo lZ dwc] 27)).cell? ⟨w17.heap.size, 1, none⟩ = some (.slice mwo lz mwc) := by rw [← hW18]; exact qw.cells.2.1
  have rqw2 : (w17.alloc (.cells #[.bool s2, .slice mwo lz mwc, .slice dwo lZ dwc] 27)).cell? ⟨w17.heap.size, 2, none⟩ = some (.slice dwo lZ dwc) := by rw [← hW18]; exact qw.cells.2.2
  obtain ⟨v18, hv18⟩ : ∃ v, v = w17.heap.size := ⟨_, rfl⟩
  rw [← hv18] at qw
  have HW18 : Hid (W18 = w17.alloc (.cells #[.bool s2, .slice mwo lz mwc, .slice dwo lZ dwc] 27)) := hW18
  have Hv18 : Hid (v18 = w17.heap.size) := hv18
  clear hW18 hv18
  go_wp2_with fail
  rw [← HW18.out, ← Hv18.out]
  clear HW18 Hv18 z0 t0 z1 t1 z2 t2 rqa0 rqa1 rqb0 rqb1 rqu0 rqu1 rqv0 rqv1 rqx0 rqx1 rqx2 rqy0 rqy1 rqy2 rqz0 rqz1 rqz2 rqw0 rqw1 rqw2 
  refine (same3 s1 mxo myo dxo dyo lx mxc myc lX dxc dyc xm xd _ hmx.num hmy hdx.num hdy).mono ?_
  rintro e w19 ⟨rfl, b⟩
  replace ua := ua.below (Nat.le_refl _) b
  replace ub := ub.below (Nat.le_refl _) b
  replace ra := ra.below b
  replace rb := rb.below b
  replace hB0 := Nat.le_trans hB0 b.size
  replace hmx := hmx.below b
  replace hdx := hdx.below b
  replace hmy := hmy.below (Nat.le_refl _) b
  replace hdy := hdy.below (Nat.le_refl _) b
  replace hmz := hmz.below b
  replace hdz := hdz.below b
  replace hmw := hmw.below (Nat.le_refl _) b
  replace hdw := hdw.below (Nat.le_refl _) b
  replace qa := qa.below b
  replace qb := qb.below b
  replace qu := qu.below b
  replace qv := qv.below b
  replace qx := qx.below b
  replace qy := qy.below b
  replace qz := qz.below b
  replace qw := qw.below b
  replace hb := bstep hb b
  replace hsz := Nat.lt_of_lt_of_le hsz b.size
  clear b
  obtain ⟨cqa0, cqa1⟩ := qa.cells
  obtain ⟨cqb0, cqb1⟩ := qb.cells
  obtain ⟨cqu0, cqu1⟩ := qu.cells
  obtain ⟨cqv0, cqv1⟩ := qv.cells
  obtain ⟨cqx0, cqx1, cqx2⟩ := qx.cells
  obtain ⟨cqy0, cqy1, cqy2⟩ := qy.cells
  obtain ⟨cqz0, cqz1, cqz2⟩ := qz.cells
  obtain ⟨cqw0, cqw1, cqw2⟩ := qw.cells
  go_wp2_with fail
  clear cqa0 cqa1 cqb0 cqb1 cqu0 cqu1 cqv0 cqv1 cqx0 cqx1 cqx2 cqy0 cqy1 cqy2 cqz0 cqz1 cqz2 cqw0 cqw1 cqw2
  refine (same3 s2 mzo mwo dzo dwo lz mzc mwc lZ dzc dwc zm zd _ hmz.num hmw hdz.num hdw).mono ?_
  rintro e w20 ⟨rfl, b⟩
  replace ua := ua.below (Nat.le_refl _) b
  replace ub := ub.below (Nat.le_refl _) b
  replace ra := ra.below b
  replace rb := rb.below b
  replace hB0 := Nat.le_trans hB0 b.size
  replace hmx := hmx.below b
  replace hdx := hdx.below b
  replace hmy := hmy.below (Nat.le_refl _) b
  replace hdy := hdy.below (Nat.le_refl _) b
  replace hmz := hmz.below b
  replace hdz := hdz.below b
  replace hmw := hmw.below (Nat.le_refl _) b
  replace hdw := hdw.below (Nat.le_refl _) b
  replace qa := qa.below b
  replace qb := qb.below b
  replace qu := qu.below b
  replace qv := qv.below b
  replace qx := qx.below b
  replace qy := qy.below b
  replace qz := qz.below b
  replace qw := qw.below b
  replace hb := bstep hb b
  replace hsz := Nat.lt_of_lt_of_le hsz b.size
  clear b
  clear hmy hdy hmw hdw
  obtain ⟨WO, hWO⟩ : ∃ W, W = w20.alloc (.cells #[.bool s1, .slice mxo lx mxc, .slice dxo lX dxc, .bool s2, .slice mzo lz mzc, .slice dzo lZ dzc] 27) := ⟨_, rfl⟩
  have hrow : ∀ i, i < 2 → WO.cell? ⟨w20.heap.size, i * 3 + 1, none⟩ = some (two (.slice mxo lx mxc) (.slice mzo lz mzc) i) ∧ WO.cell? ⟨w20.heap.size, i * 3 + 2, none⟩ = some (two (.slice dxo lX dxc) (.slice dzo lZ dzc) i) := by
    intro i hi
    rw [hWO, World.cell?_alloc_at _ _ _ _ rfl, World.cell?_alloc_at _ _ _ _ rfl]
    match i, hi with
    | 0, _ => exact ⟨rfl, rfl⟩
    | 1, _ => exact ⟨rfl, rfl⟩
  have b : Below w20.heap.size w20 WO := by rw [hWO]; exact belowA _ _
  obtain ⟨cqa0, cqa1⟩ := qa.cells
  obtain ⟨cqb0, cqb1⟩ := qb.cells
  obtain ⟨cqu0, cqu1⟩ := qu.cells
  obtain ⟨cqv0, cqv1⟩ := qv.cells
  obtain ⟨cqx0, cqx1, cqx2⟩ := qx.cells
  obtain ⟨cqy0, cqy1, cqy2⟩ := qy.cells
  obtain ⟨cqz0, cqz1, cqz2⟩ := qz.cells
  obtain ⟨cqw0, cqw1, cqw2⟩ := qw.cells
  have HWO : Hid (WO = w20.alloc (.cells #[.bool s1, .slice mxo lx mxc, .slice dxo lX dxc, .bool s2, .slice mzo lz mzc, .slice dzo lZ dzc] 27)) := hWO
  clear hWO
  go_wp2_with fail
  rw [← HWO.out]
  clear HWO cqa0 cqa1 cqb0 cqb1 cqu0 cqu1 cqv0 cqv1 cqx0 cqx1 cqx2 cqy0 cqy1 cqy2 cqz0 cqz1 cqz2 cqw0 cqw1 cqw2
  replace ua := ua.below (Nat.le_refl _) b
  replace ub := ub.below (Nat.le_refl _) b
  replace ra := ra.below b
  replace rb := rb.below b
  replace hB0 := Nat.le_trans hB0 b.size
  replace hmx := hmx.below b
  replace hdx := hdx.below b
  replace hmz := hmz.below b
  replace hdz := hdz.below b
  replace qa := qa.below b
  replace qb := qb.below b
  replace qu := qu.below b
  replace qv := qv.below b
  replace qx := qx.below b
  replace qy := qy.below b
  replace qz := qz.below b
  replace qw := qw.below b
  replace hb := bstep hb b
  replace hsz := Nat.lt_of_lt_of_le hsz b.size
  clear b
  have hfam := fam4 hmx hdx hmz hdz
  have hdist := dist4 px px1 px2 px3 px4 pz
  have hq := ownRats3 B0 _ 2 2 _ _ _ WO hB0 (by decide) (by decide) hrow (fun i hi => by match i, hi with | 0, _ => exact ⟨⟨_, _, _, rfl⟩, _, _, _, rfl⟩ | 1, _ => exact ⟨⟨_, _, _, rfl⟩, _, _, _, rfl⟩) hfam hdist (fun j hj => by
    match j, hj with
    | 0, _ => exact Nat.le_trans HL1.out.1 (by decide)
    | 1, _ => exact Nat.le_trans HL1.out.2 (by decide)
    | 2, _ => exact Nat.le_trans HL2.out.1 (by decide)
    | 3, _ => exact Nat.le_trans HL2.out.2 (by decide))
  refine hq.mono ?_
  rintro e wK ⟨rfl, hx⟩
  clear hq
  replace hb := hb.trans (hx.below (B := w.heap.size) hb.size (fun j k hj e => Nat.le_trans HWB.out ((hfam j hj).block k e).1))
  replace ra := ra.bex hx (from4 pa1 pa2 pa3 pa4)
  replace rb := rb.bex hx (from4 pb1 pb2 pb3 pb4)
  replace ua := HUA.out.below (Nat.le_refl _) hb
  replace ub := HUB.out.below (Nat.le_refl _) hb
  replace qa := qa.bexT hx hfam
  replace qb := qb.bexT hx hfam
  replace qu := qu.bexT hx hfam
  replace qv := qv.bexT hx hfam
  clear hx hfam hdist hrow hmx hdx hmz hdz px px1 px2 px3 px4 pz pa1 pa2 pa3 pa4 pb1 pb2 pb3 pb4 hB0 qx qy qz qw hsz
  obtain ⟨cqa0, cqa1⟩ := qa.cells
  obtain ⟨cqb0, cqb1⟩ := qb.cells
  obtain ⟨cqu0, cqu1⟩ := qu.cells
  obtain ⟨cqv0, cqv1⟩ := qv.cells
  go_wp2_with fail
  clear cqa0 cqa1 cqb0 cqb1 cqu0 cqu1 cqv0 cqv1
  refine (keptInt3 _ na uo ao ul uc al2 ac xa2 _ ra ua (Nat.le_trans HLA.out (by decide))).mono ?_
  rintro e w21 ⟨rfl, b⟩
  replace ra := ra.below b
  replace rb := rb.below b
  replace ua := ua.below (Nat.le_refl _) b
  replace ub := ub.below (Nat.le_refl _) b
  replace qa := qa.below b
  replace qb := qb.below b
  replace qu := qu.below b
  replace qv := qv.below b
  replace hb := bstep hb b
  clear b
  obtain ⟨cqa0, cqa1⟩ := qa.cells
  obtain ⟨cqb0, cqb1⟩ := qb.cells
  obtain ⟨cqu0, cqu1⟩ := qu.cells
  obtain ⟨cqv0, cqv1⟩ := qv.cells
  go_wp2_with fail
  clear cqa0 cqa1 cqb0 cqb1 cqu0 cqu1 cqv0 cqv1
  refine (keptInt3 _ nb vo bo vl vc bl2 bc xb2 _ rb ub (Nat.le_trans HLB.out (by decide))).mono ?_
  rintro e w22 ⟨rfl, b⟩
  replace ra := ra.below b
  replace rb := rb.below b
  replace ua := ua.below (Nat.le_refl _) b
  replace ub := ub.below (Nat.le_refl _) b
  replace qa := qa.below b
  replace qb := qb.below b
  replace qu := qu.below b
  replace qv := qv.below b
  replace hb := bstep hb b
  clear b
  have HE : Hid (Below w.heap.size w w22) := hb
  clear hb qa qb qu qv ra rb ua ub
  go_wp2
  go_ret
  exact ⟨rfl, HE.out⟩
end Go.Proofs.YtcmclmhfjmmffaaGreatDoor
