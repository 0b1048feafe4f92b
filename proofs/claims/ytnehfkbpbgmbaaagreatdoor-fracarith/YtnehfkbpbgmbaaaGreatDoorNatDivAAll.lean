/-
  Proved here: awake answers true.
  Proved here: the walk of FracMake.
  Proved here: what over answers: a number written over in its place, and what it is now in memory of its own.
  Proved here: NatDiv of any two numbers returns true, and writes nothing that was there.
-/
import Derived.Test.YtnehfkbpbgmbaaaGreatDoorR3All
import Derived.Test.YtnehfkbpbgmbaaaGreatDoorSub3All
import Derived.Test.YtnehfkbpbgmbaaaGreatDoorFamAll
import Derived.Test.YtnehfkbpbgmbaaaGreatDoorBitsAll
import Derived.Test.YtnehfkbpbgmbaaaGreatDoorMul
import Derived.Test.YtnehfkbpbgmbaaaGreatDoorAllAll
import Derived.Test.YtnehfkbpbgmbaaaGreatDoorRefGcd
import Derived.Test.YtnehfkbpbgmbaaaGreatDoorFracAAll
namespace Go.Proofs.YtnehfkbpbgmbaaaGreatDoor
open Go.RowKit

theorem ROwn.see {B : Nat} {w : World} {v : Value} {r : Rat} {L : Nat} (h : ROwn B w v r) (hs : RSz r L) (hL : L ≤ 1000000) : ∃ n ao al ac bo bl bc, v = .agg #[.bool n, .slice ao al ac, .slice bo bl bc] ∧ RNum w (.agg #[.bool n, .slice ao al ac, .slice bo bl bc]) r L := by
  have h1 := h.std
  have h2 := h1.num hs hL
  obtain ⟨n, ao, al, ac, bo, bl, bc, rfl, _⟩ := h1
  exact ⟨n, ao, al, ac, bo, bl, bc, rfl, h2⟩
set_option maxRecDepth 100000 in
set_option maxHeartbeats 6400000 in
theorem l_awake {w : World} : Calls Tryz.prog 5 #[] w fun e w' => e = .returned (.bool true) ∧ Below w.heap.size w w' := by
  obtain ⟨X, hX⟩ : ∃ X, X = Rat.divInt 6 (-4) := ⟨_, rfl⟩
  obtain ⟨Y, hY⟩ : ∃ X, X = Rat.divInt 5 6 := ⟨_, rfl⟩
  have HX : Hid (X = Rat.divInt 6 (-4)) := hX
  have HY : Hid (Y = Rat.divInt 5 6) := hY
  have sX : RSz X 1 := by rw [hX]; exact ⟨⟨by decide⟩, ⟨by decide⟩⟩
  have sY : RSz Y 1 := by rw [hY]; exact ⟨⟨by decide⟩, ⟨by decide⟩⟩
  have hXY : X + Y = Rat.divInt (6 * 6 + 5 * (-4)) ((-4) * 6) := by rw [hX, hY]; exact Rat.divInt_add_divInt 6 5 (by decide) (by decide)
  have sC : RSz (X + Y) 1 := by rw [hXY]; exact ⟨⟨by decide⟩, ⟨by decide⟩⟩
  obtain ⟨C, hC⟩ : ∃ C, C = X + Y := ⟨_, rfl⟩
  have HC : Hid (X + Y = C) := hC.symm
  rw [← hC] at sC
  have tX : rt X = ⟨#[45, 51, 47, 50]⟩ := by rw [hX]; kernel_rfl
  have tC : rt C = ⟨#[45, 50, 47, 51]⟩ := by rw [hC, hXY]; kernel_rfl
  have t0 : rt 0 = ⟨#[48]⟩ := by kernel_rfl
  have cXY : cmpQ X Y = -1 := by rw [hX, hY]; kernel_rfl
  have HTX : Hid (rt X = ⟨#[45, 51, 47, 50]⟩) := tX
  have HTC : Hid (rt C = ⟨#[45, 50, 47, 51]⟩) := tC
  have HT0 : Hid (rt 0 = ⟨#[48]⟩) := t0
  have HXY : Hid (cmpQ X Y = -1) := cXY
  clear hX hY hC hXY tX tC t0 cXY
  go_enter Tryz.func5, Tryz.ntmps5
  go_wp2_with fail
  have hb : Below w.heap.size w w := Below.refl _ _
  have hsz : 0 ≤ w.heap.size := Nat.zero_le _
  have hq := c_fof (n := 6) (d := -4) (w := w) (by decide) (by decide) (by decide) (by decide) (by decide)
  rw [← HX.out] at hq
  refine (hq).mono ?_
  rintro e w2 ⟨v, rfl, hv, b⟩
  clear hq
  obtain ⟨na, ao, al, ac, aO, aL, aC, rfl, ia⟩ := hv.see sX (by decide)
  clear hv
  replace hb := bstep hb b
  clear b
  obtain ⟨W3, hW3⟩ : ∃ W, W = w2.alloc (.cells #[.bool na, .slice ao al ac, .slice aO aL aC] 27) := ⟨_, rfl⟩
  have qa : QCell W3 (w2.heap.size) na (.slice ao al ac) (.slice aO aL aC) := by rw [hW3]; exact (qcell_new _ rfl)
  have b : Below w2.heap.size w2 W3 := by rw [hW3]; exact belowA _ _
  replace ia := ia.below b
  replace hb := bstep hb b
  clear b
  have rqa0 : (w2.alloc (.cells #[.bool na, .slice ao al ac, .slice aO aL aC] 27)).cell? ⟨w2.heap.size, 0, none⟩ = some (.bool na) := by rw [← hW3]; exact qa.cells.1
  have rqa1 : (w2.alloc (.cells #[.bool na, .slice ao al ac, .slice aO aL aC] 27)).cell? ⟨w2.heap.size, 1, none⟩ = some (.slice ao al ac) := by rw [← hW3]; exact qa.cells.2.1
  have rqa2 : (w2.alloc (.cells #[.bool na, .slice ao al ac, .slice aO aL aC] 27)).cell? ⟨w2.heap.size, 2, none⟩ = some (.slice aO aL aC) := by rw [← hW3]; exact qa.cells.2.2
  obtain ⟨v3, hv3⟩ : ∃ v, v = w2.heap.size := ⟨_, rfl⟩
  rw [← hv3] at qa
  have HW3 : Hid (W3 = w2.alloc (.cells #[.bool na, .slice ao al ac, .slice aO aL aC] 27)) := hW3
  have Hv3 : Hid (v3 = w2.heap.size) := hv3
  clear hW3 hv3
  go_wp2_with fail
  rw [← HW3.out, ← Hv3.out]
  clear HW3 Hv3 rqa0 rqa1 rqa2
  have hq := c_parse56 (w := W3)
  rw [← HY.out] at hq
  refine (hq).mono ?_
  rintro e w4 ⟨v, rfl, hv, b⟩
  clear hq
  obtain ⟨nb, bo, bl, bc, bO, bL, bC, rfl, ib⟩ := hv.see sY (by decide)
  clear hv
  replace ia := ia.below b
  replace qa := qa.below b
  replace hb := bstep hb b
  clear b
  obtain ⟨W5, hW5⟩ : ∃ W, W = w4.alloc (.cells #[.bool nb, .slice bo bl bc, .slice bO bL bC] 27) := ⟨_, rfl⟩
  have qb : QCell W5 (w4.heap.size) nb (.slice bo bl bc) (.slice bO bL bC) := by rw [hW5]; exact (qcell_new _ rfl)
  have b : Below w4.heap.size w4 W5 := by rw [hW5]; exact belowA _ _
  replace ia := ia.below b
  replace ib := ib.below b
  replace qa := qa.below b
  replace hb := bstep hb b
  clear b
  have rqa0 : (w4.alloc (.cells #[.bool nb, .slice bo bl bc, .slice bO bL bC] 27)).cell? ⟨v3, 0, none⟩ = some (.bool na) := by rw [← hW5]; exact qa.cells.1
  have rqa1 : (w4.alloc (.cells #[.bool nb, .slice bo bl bc, .slice bO bL bC] 27)).cell? ⟨v3, 1, none⟩ = some (.slice ao al ac) := by rw [← hW5]; exact qa.cells.2.1
  have rqa2 : (w4.alloc (.cells #[.bool nb, .slice bo bl bc, .slice bO bL bC] 27)).cell? ⟨v3, 2, none⟩ = some (.slice aO aL aC) := by rw [← hW5]; exact qa.cells.2.2
  have rqb0 : (w4.alloc (.cells #[.bool nb, .slice bo bl bc, .slice bO bL bC] 27)).cell? ⟨w4.heap.size, 0, none⟩ = some (.bool nb) := by rw [← hW5]; exact qb.cells.1
  have rqb1 : (w4.alloc (.cells #[.bool nb, .slice bo bl bc, .slice bO bL bC] 27)).cell? ⟨w4.heap.size, 1, none⟩ = some (.slice bo bl bc) := by rw [← hW5]; exact qb.cells.2.1
  have rqb2 : (w4.alloc (.cells #[.bool nb, .slice bo bl bc, .slice bO bL bC] 27)).cell? ⟨w4.heap.size, 2, none⟩ = some (.slice bO bL bC) := by rw [← hW5]; exact qb.cells.2.2
  obtain ⟨v5, hv5⟩ : ∃ v, v = w4.heap.size := ⟨_, rfl⟩
  rw [← hv5] at qb
  have HW5 : Hid (W5 = w4.alloc (.cells #[.bool nb, .slice bo bl bc, .slice bO bL bC] 27)) := hW5
  have Hv5 : Hid (v5 = w4.heap.size) := hv5
  clear hW5 hv5
  go_wp2_with fail
  rw [← HW5.out, ← Hv5.out]
  clear HW5 Hv5 rqa0 rqa1 rqa2 rqb0 rqb1 rqb2
  have hq := c_radd ia ib (by decide)
  rw [HC.out] at hq
  refine (hq).mono ?_
  rintro e w6 ⟨v, rfl, hv, b⟩
  clear hq
  obtain ⟨nc, co, cl, cc, cO, cL, cC, rfl, ic⟩ := hv.see sC (by decide)
  clear hv
  replace ia := ia.below b
  replace ib := ib.below b
  replace qa := qa.below b
  replace qb := qb.below b
  replace hb := bstep hb b
  clear b
  obtain ⟨W7, hW7⟩ : ∃ W, W = w6.alloc (.cells #[.bool nc, .slice co cl cc, .slice cO cL cC] 27) := ⟨_, rfl⟩
  have qc : QCell W7 (w6.heap.size) nc (.slice co cl cc) (.slice cO cL cC) := by rw [hW7]; exact (qcell_new _ rfl)
  have b : Below w6.heap.size w6 W7 := by rw [hW7]; exact belowA _ _
  replace ia := ia.below b
  replace ib := ib.below b
  replace ic := ic.below b
  replace qa := qa.below b
  replace qb := qb.below b
  replace hb := bstep hb b
  clear b
  have rqa0 : (w6.alloc (.cells #[.bool nc, .slice co cl cc, .slice cO cL cC] 27)).cell? ⟨v3, 0, none⟩ = some (.bool na) := by rw [← hW7]; exact qa.cells.1
  have rqa1 : (w6.alloc (.cells #[.bool nc, .slice co cl cc, .slice cO cL cC] 27)).cell? ⟨v3, 1, none⟩ = some (.slice ao al ac) := by rw [← hW7]; exact qa.cells.2.1
  have rqa2 : (w6.alloc (.cells #[.bool nc, .slice co cl cc, .slice cO cL cC] 27)).cell? ⟨v3, 2, none⟩ = some (.slice aO aL aC) := by rw [← hW7]; exact qa.cells.2.2
  have rqb0 : (w6.alloc (.cells #[.bool nc, .slice co cl cc, .slice cO cL cC] 27)).cell? ⟨v5, 0, none⟩ = some (.bool nb) := by rw [← hW7]; exact qb.cells.1
  have rqb1 : (w6.alloc (.cells #[.bool nc, .slice co cl cc, .slice cO cL cC] 27)).cell? ⟨v5, 1, none⟩ = some (.slice bo bl bc) := by rw [← hW7]; exact qb.cells.2.1
  have rqb2 : (w6.alloc (.cells #[.bool nc, .slice co cl cc, .slice cO cL cC] 27)).cell? ⟨v5, 2, none⟩ = some (.slice bO bL bC) := by rw [← hW7]; exact qb.cells.2.2
  have rqc0 : (w6.alloc (.cells #[.bool nc, .slice co cl cc, .slice cO cL cC] 27)).cell? ⟨w6.heap.size, 0, none⟩ = some (.bool nc) := by rw [← hW7]; exact qc.cells.1
  have rqc1 : (w6.alloc (.cells #[.bool nc, .slice co cl cc, .slice cO cL cC] 27)).cell? ⟨w6.heap.size, 1, none⟩ = some (.slice co cl cc) := by rw [← hW7]; exact qc.cells.2.1
  have rqc2 : (w6.alloc (.cells #[.bool nc, .slice co cl cc, .slice cO cL cC] 27)).cell? ⟨w6.heap.size, 2, none⟩ = some (.slice cO cL cC) := by rw [← hW7]; exact qc.cells.2.2
  obtain ⟨v7, hv7⟩ : ∃ v, v = w6.heap.size := ⟨_, rfl⟩
  rw [← hv7] at qc
  have HW7 : Hid (W7 = w6.alloc (.cells #[.bool nc, .slice co cl cc, .slice cO cL cC] 27)) := hW7
  have Hv7 : Hid (v7 = w6.heap.size) := hv7
  clear hW7 hv7
  go_wp2_with fail
  rw [← HW7.out, ← Hv7.out]
  clear HW7 Hv7 rqa0 rqa1 rqa2 rqb0 rqb1 rqb2 rqc0 rqc1 rqc2
  have hq := c_rtext ia (by decide)
  rw [HTX.out] at hq
  refine (hq).mono ?_
  rintro e w8 ⟨rfl, b⟩
  clear hq
  replace ia := ia.below b
  replace ib := ib.below b
  replace ic := ic.below b
  replace qa := qa.below b
  replace qb := qb.below b
  replace qc := qc.below b
  replace hb := bstep hb b
  clear b
  obtain ⟨cqa0, cqa1, cqa2⟩ := qa.cells
  obtain ⟨cqb0, cqb1, cqb2⟩ := qb.cells
  obtain ⟨cqc0, cqc1, cqc2⟩ := qc.cells
  go_wp2_with fail
  clear cqa0 cqa1 cqa2 cqb0 cqb1 cqb2 cqc0 cqc1 cqc2
  have hq := c_rtext ic (by decide)
  rw [HTC.out] at hq
  refine (hq).mono ?_
  rintro e w9 ⟨rfl, b⟩
  clear hq
  replace ia := ia.below b
  replace ib := ib.below b
  replace ic := ic.below b
  replace qa := qa.below b
  replace qb := qb.below b
  replace qc := qc.below b
  replace hb := bstep hb b
  clear b
  obtain ⟨cqa0, cqa1, cqa2⟩ := qa.cells
  obtain ⟨cqb0, cqb1, cqb2⟩ := qb.cells
  obtain ⟨cqc0, cqc1, cqc2⟩ := qc.cells
  go_wp2_with fail
  clear cqa0 cqa1 cqa2 cqb0 cqb1 cqb2 cqc0 cqc1 cqc2
  have hq := c_rsum none 0 0 0 (fun _ => 0) 0 w9 (fun h => absurd h (by decide)) (fun i hi => absurd hi (by omega)) (by decide)
  rw [show rsum (fun _ => 0) 0 = 0 from rfl] at hq
  refine (hq).mono ?_
  rintro e w10 ⟨v, rfl, hv, b⟩
  clear hq
  obtain ⟨nz, zo, zl, zc, zO, zL, zC, rfl, iz⟩ := hv.see RSz.zero (by decide)
  clear hv
  replace ia := ia.below b
  replace ib := ib.below b
  replace ic := ic.below b
  replace qa := qa.below b
  replace qb := qb.below b
  replace qc := qc.below b
  replace hb := bstep hb b
  clear b
  obtain ⟨cqa0, cqa1, cqa2⟩ := qa.cells
  obtain ⟨cqb0, cqb1, cqb2⟩ := qb.cells
  obtain ⟨cqc0, cqc1, cqc2⟩ := qc.cells
  go_wp2_with fail
  clear cqa0 cqa1 cqa2 cqb0 cqb1 cqb2 cqc0 cqc1 cqc2
  have hq := c_rtext iz (by decide)
  rw [HT0.out] at hq
  refine (hq).mono ?_
  rintro e w11 ⟨rfl, b⟩
  clear hq
  replace ia := ia.below b
  replace ib := ib.below b
  replace ic := ic.below b
  replace iz := iz.below b
  replace qa := qa.below b
  replace qb := qb.below b
  replace qc := qc.below b
  replace hb := bstep hb b
  clear b
  obtain ⟨cqa0, cqa1, cqa2⟩ := qa.cells
  obtain ⟨cqb0, cqb1, cqb2⟩ := qb.cells
  obtain ⟨cqc0, cqc1, cqc2⟩ := qc.cells
  go_wp2_with fail
  clear cqa0 cqa1 cqa2 cqb0 cqb1 cqb2 cqc0 cqc1 cqc2
  have hq := c_rcmp ia ib (by decide)
  rw [HXY.out] at hq
  refine (hq).mono ?_
  rintro e w12 ⟨rfl, b⟩
  clear hq
  replace ia := ia.below b
  replace ib := ib.below b
  replace ic := ic.below b
  replace iz := iz.below b
  replace qa := qa.below b
  replace qb := qb.below b
  replace qc := qc.below b
  replace hb := bstep hb b
  clear b
  have HE : Hid (Below w.heap.size w w12) := hb
  clear hb hsz qa qb qc ia ib ic iz
  go_wp2_with fail
  go_ret
  exact ⟨rfl, HE.out⟩
end Go.Proofs.YtnehfkbpbgmbaaaGreatDoor

namespace Go.Proofs.YtnehfkbpbgmbaaaGreatDoor
open Go.RowKit

end Go.Proofs.YtnehfkbpbgmbaaaGreatDoor

namespace Go.Proofs.YtnehfkbpbgmbaaaGreatDoor
open Go.RowKit

end Go.Proofs.YtnehfkbpbgmbaaaGreatDoor

namespace Go.Proofs.YtnehfkbpbgmbaaaGreatDoor
open Go.RowKit

theorem Bag.push2 {B : Nat} {w w' : World} {l : List (Value × List Nat)} {v u : Value} {xs ys : List Nat} (h : Bag B w l) (h1 : Own w.heap.size 67 w' v xs) (h2 : Own w.heap.size 67 w' u ys) (hap : v.ownBlock = none ∨ v.ownBlock ≠ u.ownBlock) (hb : Below w.heap.size w w') (hB : B ≤ w.heap.size) : Bag B w' (l ++ [(v, xs), (u, ys)]) := by
  refine ⟨fun p hp => ?_, ?_⟩
  · rcases List.mem_append.1 hp with hp | hp
    · exact (h.1 p hp).below hb
    · simp only [List.mem_cons, List.not_mem_nil, or_false] at hp
      rcases hp with rfl | rfl
      · exact h1.mono hB
      · exact h2.mono hB
  · rw [List.pairwise_append]
    refine ⟨h.2, List.Pairwise.cons (fun q hq => ?_) (by simp), fun p hp q hq => ?_⟩
    · simp only [List.mem_singleton] at hq
      subst hq
      exact hap
    · simp only [List.mem_cons, List.not_mem_nil, or_false] at hq
      rcases hq with rfl | rfl
      · exact apart_later (h.1 p hp) h1 (Nat.le_refl _)
      · exact apart_later (h.1 p hp) h2 (Nat.le_refl _)
end Go.Proofs.YtnehfkbpbgmbaaaGreatDoor
