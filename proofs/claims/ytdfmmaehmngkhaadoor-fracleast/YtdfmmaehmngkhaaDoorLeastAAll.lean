/-
  Proved here: awake answers true.
  Proved here: package frac's answers over fractions of at most 40 limbs, by their values alone.
-/
import Derived.Test.YtdfmmaehmngkhaaDoorFracG
import Derived.Test.YtdfmmaehmngkhaaDoorLeastM
namespace Go.Proofs.YtdfmmaehmngkhaaDoor
open Go.RowKit

theorem ROwn.see {B : Nat} {w : World} {v : Value} {r : Rat} {L : Nat} (h : ROwn B w v r) (hs : RSz r L) (hL : L ≤ 1000000) : ∃ n ao al ac bo bl bc, v = .agg #[.bool n, .slice ao al ac, .slice bo bl bc] ∧ RNum w (.agg #[.bool n, .slice ao al ac, .slice bo bl bc]) r L := by
  have h1 := h.std
  have h2 := h1.num hs hL
  obtain ⟨n, ao, al, ac, bo, bl, bc, rfl, _⟩ := h1
  exact ⟨n, ao, al, ac, bo, bl, bc, rfl, h2⟩
set_option maxRecDepth 100000 in
set_option maxHeartbeats 6400000 in
theorem l_awake {w : World} : Calls Tryd.prog 5 #[] w fun e w' => e = .returned (.bool true) ∧ Below w.heap.size w w' := by
  obtain ⟨X, hX⟩ : ∃ X, X = Rat.divInt 6 (-4) := ⟨_, rfl⟩
  obtain ⟨Y, hY⟩ : ∃ X, X = Rat.divInt 5 6 := ⟨_, rfl⟩
  have HX : Hid (X = Rat.divInt 6 (-4)) := hX
  have HY : Hid (Y = Rat.divInt 5 6) := hY
  have sX : RSz X 1 := by rw [hX]; exact ⟨⟨by decide⟩, ⟨by decide⟩⟩
  have sY : RSz Y 1 := by rw [hY]; exact ⟨⟨by decide⟩, ⟨by decide⟩⟩
  have hXY : X + Y = Rat.divInt (6 * 6 + 5 * (-4)) ((-4) * 6) := by rw [hX, hY]; exact Rat.divInt_add_divInt 6 5 (by decide) (by decide)
  have sC : RSz (X + Y) 1 := by rw [hXY]; exact ⟨⟨by decide⟩, ⟨by decide⟩⟩
  obtain ⟨C, hC⟩ : ∃ C, C = X + Y := ⟨_, rfl⟩
  have HC : Hid (X + Y = C) := hC.symm
  rw [← hC] at sC
  have tX : rt X = ⟨#[45, 51, 47, 50]⟩ := by rw [hX]; kernel_rfl
  have tC : rt C = ⟨#[45, 50, 47, 51]⟩ := by rw [hC, hXY]; kernel_rfl
  have t0 : rt 0 = ⟨#[48]⟩ := by kernel_rfl
  have cXY : cmpQ X Y = -1 := by rw [hX, hY]; kernel_rfl
  have HTX : Hid (rt X = ⟨#[45, 51, 47, 50]⟩) := tX
  have HTC : Hid (rt C = ⟨#[45, 50, 47, 51]⟩) := tC
  have HT0 : Hid (rt 0 = ⟨#[48]⟩) := t0
  have HXY : Hid (cmpQ X Y = -1) := cXY
  clear hX hY hC hXY tX tC t0 cXY
  go_enter Tryd.func5, Tryd.ntmps5
  go_wp2_with fail
  have hb : Below w.heap.size w w := Below.refl _ _
  have hsz : 0 ≤ w.heap.size := Nat.zero_le _
  have hq := c_fof (n := 6) (d := -4) (w := w) (by decide) (by decide) (by decide) (by decide) (by decide)
  rw [← HX.out] at hq
  refine (hq).mono ?_
  rintro e w2 ⟨v, rfl, hv, b⟩
  clear hq
  obtain ⟨na, ao, al, ac, aO, aL, aC, rfl, ia⟩ := hv.see sX (by decide)
  clear hv
  replace hb := bstep hb b
  clear b
  obtain ⟨W3, hW3⟩ : ∃ W, W = w2.alloc (.cells #[.bool na, .slice ao al ac, .slice aO aL aC] 27) := ⟨_, rfl⟩
  have qa : QCell W3 (w2.heap.size) na (.slice ao al ac) (.slice aO aL aC) := by rw [hW3]; exact (qcell_new _ rfl)
  have b : Below w2.heap.size w2 W3 := by rw [hW3]; exact belowA _ _
  replace ia := ia.below b
  replace hb := bstep hb b
  clear b
  have rqa0 : (w2.alloc (.cells #[.bool na, .slice ao al ac, .slice aO aL aC] 27)).cell? ⟨w2.heap.size, 0, none⟩ = some (.bool na) := by rw [← hW3]; exact qa.cells.1
  have rqa1 : (w2.alloc (.cells #[.bool na, .slice ao al ac, .slice aO aL aC] 27)).cell? ⟨w2.heap.size, 1, none⟩ = some (.slice ao al ac) := by rw [← hW3]; exact qa.cells.2.1
  have rqa2 : (w2.alloc (.cells #[.bool na, .slice ao al ac, .slice aO aL aC] 27)).cell? ⟨w2.heap.size, 2, none⟩ = some (.slice aO aL aC) := by rw [← hW3]; exact qa.cells.2.2
  obtain ⟨v3, hv3⟩ : ∃ v, v = w2.heap.size := ⟨_, rfl⟩
  rw [← hv3] at qa
  have HW3 : Hid (W3 = w2.alloc (.cells #[.bool na, .slice ao al ac, .slice aO aL aC] 27)) := hW3
  have Hv3 : Hid (v3 = w2.heap.size) := hv3
  clear hW3 hv3
  go_wp2_with fail
  rw [← HW3.out, ← Hv3.out]
  clear HW3 Hv3 rqa0 rqa1 rqa2
  have hq := c_parse56 (w := W3)
  rw [← HY.out] at hq
  refine (hq).mono ?_
  rintro e w4 ⟨v, rfl, hv, b⟩
  clear hq
  obtain ⟨nb, bo, bl, bc, bO, bL, bC, rfl, ib⟩ := hv.see sY (by decide)
  clear hv
  replace ia := ia.below b
  replace qa := qa.below b
  replace hb := bstep hb b
  clear b
  obtain ⟨W5, hW5⟩ : ∃ W, W = w4.alloc (.cells #[.bool nb, .slice bo bl bc, .slice bO bL bC] 27) := ⟨_, rfl⟩
  have qb : QCell W5 (w4.heap.size) nb (.slice bo bl bc) (.slice bO bL bC) := by rw [hW5]; exact (qcell_new _ rfl)
  have b : Below w4.heap.size w4 W5 := by rw [hW5]; exact belowA _ _
  replace ia := ia.below b
  replace ib := ib.below b
  replace qa := qa.below b
  replace hb := bstep hb b
  clear b
  have rqa0 : (w4.alloc (.cells #[.bool nb, .slice bo bl bc, .slice bO bL bC] 27)).cell? ⟨v3, 0, none⟩ = some (.bool na) := by rw [← hW5]; exact qa.cells.1
  have rqa1 : (w4.alloc (.cells #[.bool nb, .slice bo bl bc, .slice bO bL bC] 27)).cell? ⟨v3, 1, none⟩ = some (.slice ao al ac) := by rw [← hW5]; exact qa.cells.2.1
  have rqa2 : (w4.alloc (.cells #[.bool nb, .slice bo bl bc, .slice bO bL bC] 27)).cell? ⟨v3, 2, none⟩ = some (.slice aO aL aC) := by rw [← hW5]; exact qa.cells.2.2
  have rqb0 : (w4.alloc (.cells #[.bool nb, .slice bo bl bc, .slice bO bL bC] 27)).cell? ⟨w4.heap.size, 0, none⟩ = some (.bool nb) := by rw [← hW5]; exact qb.cells.1
  have rqb1 : (w4.alloc (.cells #[.bool nb, .slice bo bl bc, .slice bO bL bC] 27)).cell? ⟨w4.heap.size, 1, none⟩ = some (.slice bo bl bc) := by rw [← hW5]; exact qb.cells.2.1
  have rqb2 : (w4.alloc (.cells #[.bool nb, .slice bo bl bc, .slice bO bL bC] 27)).cell? ⟨w4.heap.size, 2, none⟩ = some (.slice bO bL bC) := by rw [← hW5]; exact qb.cells.2.2
  obtain ⟨v5, hv5⟩ : ∃ v, v = w4.heap.size := ⟨_, rfl⟩
  rw [← hv5] at qb
  have HW5 : Hid (W5 = w4.alloc (.cells #[.bool nb, .slice bo bl bc, .slice bO bL bC] 27)) := hW5
  have Hv5 : Hid (v5 = w4.heap.size) := hv5
  clear hW5 hv5
  go_wp2_with fail
  rw [← HW5.out, ← Hv5.out]
  clear HW5 Hv5 rqa0 rqa1 rqa2 rqb0 rqb1 rqb2
  have hq := c_radd ia ib (by decide)
  rw [HC.out] at hq
  refine (hq).mono ?_
  rintro e w6 ⟨v, rfl, hv, b⟩
  clear hq
  obtain ⟨nc, co, cl, cc, cO, cL, cC, rfl, ic⟩ := hv.see sC (by decide)
  clear hv
  replace ia := ia.below b
  replace ib := ib.below b
  replace qa := qa.below b
  replace qb := qb.below b
  replace hb := bstep hb b
  clear b
  obtain ⟨W7, hW7⟩ : ∃ W, W = w6.alloc (.cells #[.bool nc, .slice co cl cc, .slice cO cL cC] 27) := ⟨_, rfl⟩
  have qc : QCell W7 (w6.heap.size) nc (.slice co cl cc) (.slice cO cL cC) := by rw [hW7]; exact (qcell_new _ rfl)
  have b : Below w6.heap.size w6 W7 := by rw [hW7]; exact belowA _ _
  replace ia := ia.below b
  replace ib := ib.below b
  replace ic := ic.below b
  replace qa := qa.below b
  replace qb := qb.below b
  replace hb := bstep hb b
  clear b
  have rqa0 : (w6.alloc (.cells #[.bool nc, .slice co cl cc, .slice cO cL cC] 27)).cell? ⟨v3, 0, none⟩ = some (.bool na) := by rw [← hW7]; exact qa.cells.1
  have rqa1 : (w6.alloc (.cells #[.bool nc, .slice co cl cc, .slice cO cL cC] 27)).cell? ⟨v3, 1, none⟩ = some (.slice ao al ac) := by rw [← hW7]; exact qa.cells.2.1
  have rqa2 : (w6.alloc (.cells #[.bool nc, .slice co cl cc, .slice cO cL cC] 27)).cell? ⟨v3, 2, none⟩ = some (.slice aO aL aC) := by rw [← hW7]; exact qa.cells.2.2
  have rqb0 : (w6.alloc (.cells #[.bool nc, .slice co cl cc, .slice cO cL cC] 27)).cell? ⟨v5, 0, none⟩ = some (.bool nb) := by rw [← hW7]; exact qb.cells.1
  have rqb1 : (w6.alloc (.cells #[.bool nc, .slice co cl cc, .slice cO cL cC] 27)).cell? ⟨v5, 1, none⟩ = some (.slice bo bl bc) := by rw [← hW7]; exact qb.cells.2.1
  have rqb2 : (w6.alloc (.cells #[.bool nc, .slice co cl cc, .slice cO cL cC] 27)).cell? ⟨v5, 2, none⟩ = some (.slice bO bL bC) := by rw [← hW7]; exact qb.cells.2.2
  have rqc0 : (w6.alloc (.cells #[.bool nc, .slice co cl cc, .slice cO cL cC] 27)).cell? ⟨w6.heap.size, 0, none⟩ = some (.bool nc) := by rw [← hW7]; exact qc.cells.1
  have rqc1 : (w6.alloc (.cells #[.bool nc, .slice co cl cc, .slice cO cL cC] 27)).cell? ⟨w6.heap.size, 1, none⟩ = some (.slice co cl cc) := by rw [← hW7]; exact qc.cells.2.1
  have rqc2 : (w6.alloc (.cells #[.bool nc, .slice co cl cc, .slice cO cL cC] 27)).cell? ⟨w6.heap.size, 2, none⟩ = some (.slice cO cL cC) := by rw [← hW7]; exact qc.cells.2.2
  obtain ⟨v7, hv7⟩ : ∃ v, v = w6.heap.size := ⟨_, rfl⟩
  rw [← hv7] at qc
  have HW7 : Hid (W7 = w6.alloc (.cells #[.bool nc, .slice co cl cc, .slice cO cL cC] 27)) := hW7
  have Hv7 : Hid (v7 = w6.heap.size) := hv7
  clear hW7 hv7
  go_wp2_with fail
  rw [← HW7.out, ← Hv7.out]
  clear HW7 Hv7 rqa0 rqa1 rqa2 rqb0 rqb1 rqb2 rqc0 rqc1 rqc2
  have hq := c_rtext ia (by decide)
  rw [HTX.out] at hq
  refine (hq).mono ?_
  rintro e w8 ⟨rfl, b⟩
  clear hq
  replace ia := ia.below b
  replace ib := ib.below b
  replace ic := ic.below b
  replace qa := qa.below b
  replace qb := qb.below b
  replace qc := qc.below b
  replace hb := bstep hb b
  clear b
  obtain ⟨cqa0, cqa1, cqa2⟩ := qa.cells
  obtain ⟨cqb0, cqb1, cqb2⟩ := qb.cells
  obtain ⟨cqc0, cqc1, cqc2⟩ := qc.cells
  go_wp2_with fail
  clear cqa0 cqa1 cqa2 cqb0 cqb1 cqb2 cqc0 cqc1 cqc2
  have hq := c_rtext ic (by decide)
  rw [HTC.out] at hq
  refine (hq).mono ?_
  rintro e w9 ⟨rfl, b⟩
  clear hq
  replace ia := ia.below b
  replace ib := ib.below b
  replace ic := ic.below b
  replace qa := qa.below b
  replace qb := qb.below b
  replace qc := qc.below b
  replace hb := bstep hb b
  clear b
  obtain ⟨cqa0, cqa1, cqa2⟩ := qa.cells
  obtain ⟨cqb0, cqb1, cqb2⟩ := qb.cells
  obtain ⟨cqc0, cqc1, cqc2⟩ := qc.cells
  go_wp2_with fail
  clear cqa0 cqa1 cqa2 cqb0 cqb1 cqb2 cqc0 cqc1 cqc2
  have hq := c_rsum none 0 0 0 (fun _ => 0) 0 w9 (fun h => absurd h (by decide)) (fun i hi => absurd hi (by omega)) (by decide)
  rw [show rsum (fun _ => 0) 0 = 0 from rfl] at hq
  refine (hq).mono ?_
  rintro e w10 ⟨v, rfl, hv, b⟩
  clear hq
  obtain ⟨nz, zo, zl, zc, zO, zL, zC, rfl, iz⟩ := hv.see RSz.zero (by decide)
  clear hv
  replace ia := ia.below b
  replace ib := ib.below b
  replace ic := ic.below b
  replace qa := qa.below b
  replace qb := qb.below b
  replace qc := qc.below b
  replace hb := bstep hb b
  clear b
  obtain ⟨cqa0, cqa1, cqa2⟩ := qa.cells
  obtain ⟨cqb0, cqb1, cqb2⟩ := qb.cells
  obtain ⟨cqc0, cqc1, cqc2⟩ := qc.cells
  go_wp2_with fail
  clear cqa0 cqa1 cqa2 cqb0 cqb1 cqb2 cqc0 cqc1 cqc2
  have hq := c_rtext iz (by decide)
  rw [HT0.out] at hq
  refine (hq).mono ?_
  rintro e w11 ⟨rfl, b⟩
  clear hq
  replace ia := ia.below b
  replace ib := ib.below b
  replace ic := ic.below b
  replace iz := iz.below b
  replace qa := qa.below b
  replace qb := qb.below b
  replace qc := qc.below b
  replace hb := bstep hb b
  clear b
  obtain ⟨cqa0, cqa1, cqa2⟩ := qa.cells
  obtain ⟨cqb0, cqb1, cqb2⟩ := qb.cells
  obtain ⟨cqc0, cqc1, cqc2⟩ := qc.cells
  go_wp2_with fail
  clear cqa0 cqa1 cqa2 cqb0 cqb1 cqb2 cqc0 cqc1 cqc2
  have hq := c_rcmp ia ib (by decide)
  rw [HXY.out] at hq
  refine (hq).mono ?_
  rintro e w12 ⟨rfl, b⟩
  clear hq
  replace ia := ia.below b
  replace ib := ib.below b
  replace ic := ic.below b
  replace iz := iz.below b
  replace qa := qa.below b
  replace qb := qb.below b
  replace qc := qc.below b
  replace hb := bstep hb b
  clear b
  have HE : Hid (Below w.heap.size w w12) := hb
  clear hb hsz qa qb qc ia ib ic iz
  go_wp2_with fail
  go_ret
  exact ⟨rfl, HE.out⟩
end Go.Proofs.YtdfmmaehmngkhaaDoor

namespace Go.Proofs.YtdfmmaehmngkhaaDoor
open Go.RowKit

/-- A fraction that can be read, of at most 40 limbs, by its value. -/
def RW (w : World) (v : Value) (a : Rat) : Prop := ∃ p q, RV w v p q ∧ a = rq p q
theorem RW.below {w w' : World} {v : Value} {a : Rat} (h : RW w v a) (hb : Below w.heap.size w w') : RW w' v a := by
  obtain ⟨p, q, h1, h2⟩ := h
  exact ⟨p, q, h1.below hb, h2⟩
theorem RW.rn {w : World} {v : Value} {a : Rat} (h : RW w v a) : RNum w v a 40 := by
  obtain ⟨p, q, h1, rfl⟩ := h
  exact h1.rn
theorem ROwn.rw {B : Nat} {w : World} {v : Value} {a : Rat} (h : ROwn B w v a) (hs : RSz a 40) : RW w v a := ⟨a.num, a.den, h.rv hs, (rq_std a).symm⟩
theorem wCmp {w : World} {v u : Value} {a b : Rat} (h : RW w v a) (h' : RW w u b) : Calls Tryd.prog 15 #[v, u] w fun e w' => e = .returned (.int .i64 (cmpQ a b)) ∧ Below w.heap.size w w' := by
  obtain ⟨p, q, h1, rfl⟩ := h
  obtain ⟨p', q', h1', rfl⟩ := h'
  exact aCmpF h1 h1'
theorem wSign {w : World} {v : Value} {a : Rat} (h : RW w v a) : Calls Tryd.prog 24 #[v] w fun e w' => e = .returned (.int .i64 (sgnQ a)) ∧ Below w.heap.size w w' := by
  obtain ⟨p, q, h1, rfl⟩ := h
  exact aSignF h1
theorem wFloor {w : World} {v : Value} {a : Rat} (h : RW w v a) : Calls Tryd.prog 16 #[v] w fun e w' => IEnd w (flo2 a) e w' := by
  obtain ⟨p, q, ⟨n, ao, al, ac, bo, bl, bc, rfl, h1, h2⟩, rfl⟩ := h
  rw [← flo_rq2]
  exact floorF n ao bo al ac bl bc h1 h2 (by decide)
theorem wSimplest {w : World} {v u : Value} {a b : Rat} (h : RW w v a) (h' : RW w u b) (hc : ¬ 0 < cmpQ a b) : Calls Tryd.prog 17 #[v, u] w fun e w' => RTEnd w (spQ a b) e w' := by
  obtain ⟨p, q, h1, rfl⟩ := h
  obtain ⟨p', q', h1', rfl⟩ := h'
  exact simplestF h1 h1' hc
theorem wNeg {w : World} {v : Value} {a : Rat} (h : RW w v a) : Calls Tryd.prog 21 #[v] w fun e w' => REnd w (-a) e w' := c_rneg h.rn (by decide)
theorem wMul {w : World} {v u : Value} {a b : Rat} (h : RW w v a) (h' : RW w u b) : Calls Tryd.prog 22 #[v, u] w fun e w' => REnd w (a * b) e w' := c_rmul h.rn h'.rn (by decide)
theorem wSub {w : World} {v u : Value} {a b : Rat} (h : RW w v a) (h' : RW w u b) : Calls Tryd.prog 25 #[v, u] w fun e w' => REnd w (a - b) e w' := c_rsub h.rn h'.rn (by decide)
theorem rsz_std {x : Rat} {L : Nat} (h : RSz x L) : Sz x.num L ∧ Sz (und x.den) L := ⟨h.num, by unfold und; rw [if_neg x.den_nz]; exact h.den⟩
theorem RSz.mul' {x y : Rat} {L M : Nat} (h : RSz x L) (h' : RSz y M) : RSz (x * y) (L + M) := by
  have := rsz_mul (rsz_std h).1 (rsz_std h).2 (rsz_std h').1 (rsz_std h').2
  rwa [rq_std, rq_std] at this
theorem RSz.neg' {x : Rat} {L : Nat} (h : RSz x L) : RSz (-x) L := by
  have := rsz_neg (rsz_std h).1 (rsz_std h).2
  rwa [rq_std] at this
theorem RSz.sub' {x y : Rat} {L M : Nat} (h : RSz x L) (h' : RSz y M) : RSz (x - y) (L + M + 1) := by
  have := rsz_sub (rsz_std h).1 (rsz_std h).2 (rsz_std h').1 (rsz_std h').2
  rwa [rq_std, rq_std] at this
theorem flo2_sz {x : Rat} {L : Nat} (h : RSz x L) (_ : 1 ≤ L) : Sz (flo2 x) (L + 1) := by
  refine ⟨?_⟩
  have h1 : (flo2 x).natAbs ≤ x.num.natAbs + 1 := by
    have := fq_le x.num (und x.den)
    rw [flo_rq2, rq_std] at this
    exact this
  have h2 := h.num.lt
  have h3 : 4294967296 ^ L * 2 ≤ 4294967296 ^ (L + 1) := by rw [Nat.pow_succ]; exact Nat.mul_le_mul_left _ (by decide)
  omega
end Go.Proofs.YtdfmmaehmngkhaaDoor
