/-
  Proved here: awake answers true.
  Proved here: what cutAll of a list of fractions answers: new memory, in it the first thirty, each of at most forty limbs.
-/
import Derived.Test.YtnehfkbpbgmbaaaGreatDoorFracGAll
import Derived.Test.YtnehfkbpbgmbaaaGreatDoorR3C
import Derived.Test.YtnehfkbpbgmbaaaGreatDoorMakeE3All
namespace Go.Proofs.YtnehfkbpbgmbaaaGreatDoor
open Go.RowKit

theorem ROwn.see {B : Nat} {w : World} {v : Value} {r : Rat} {L : Nat} (h : ROwn B w v r) (hs : RSz r L) (hL : L ≤ 1000000) : ∃ n ao al ac bo bl bc, v = .agg #[.bool n, .slice ao al ac, .slice bo bl bc] ∧ RNum w (.agg #[.bool n, .slice ao al ac, .slice bo bl bc]) r L := by
  have h1 := h.std
  have h2 := h1.num hs hL
  obtain ⟨n, ao, al, ac, bo, bl, bc, rfl, _⟩ := h1
  exact ⟨n, ao, al, ac, bo, bl, bc, rfl, h2⟩
set_option maxRecDepth 100000 in
set_option maxHeartbeats 6400000 in
theorem l_awake {w : World} : Calls Tryz.prog 5 #[] w fun e w' => e = .returned (.bool true) ∧ Below w.heap.size w w' := by
  obtain ⟨X, hX⟩ : ∃ X, X = Rat.divInt 6 (-4) := ⟨_, rfl⟩
  obtain ⟨Y, hY⟩ : ∃ X, X = Rat.divInt 5 6 := ⟨_, rfl⟩
  have HX : Hid (X = Rat.divInt 6 (-4)) := hX
  have HY : Hid (Y = Rat.divInt 5 6) := hY
  have sX : RSz X 1 := by rw [hX]; exact ⟨⟨by decide⟩, ⟨by decide⟩⟩
  have sY : RSz Y 1 := by rw [hY]; exact ⟨⟨by decide⟩, ⟨by decide⟩⟩
  have hXY : X + Y = Rat.divInt (6 * 6 + 5 * (-4)) ((-4) * 6) := by rw [hX, hY]; exact Rat.divInt_add_divInt 6 5 (by decide) (by decide)
  have sC : RSz (X + Y) 1 := by rw [hXY]; exact ⟨⟨by decide⟩, ⟨by decide⟩⟩
  obtain ⟨C, hC⟩ : ∃ C, C = X + Y := ⟨_, rfl⟩
  have HC : Hid (X + Y = C) := hC.symm
  rw [← hC] at sC
  have tX : rt X = ⟨#[45, 51, 47, 50]⟩ := by rw [hX]; kernel_rfl
  have tC : rt C = ⟨#[45, 50, 47, 51]⟩ := by rw [hC, hXY]; kernel_rfl
  have t0 : rt 0 = ⟨#[48]⟩ := by kernel_rfl
  have cXY : cmpQ X Y = -1 := by rw [hX, hY]; kernel_rfl
  have HTX : Hid (rt X = ⟨#[45, 51, 47, 50]⟩) := tX
  have HTC : Hid (rt C = ⟨#[45, 50, 47, 51]⟩) := tC
  have HT0 : Hid (rt 0 = ⟨#[48]⟩) := t0
  have HXY : Hid (cmpQ X Y = -1) := cXY
  clear hX hY hC hXY tX tC t0 cXY
  go_enter Tryz.func5, Tryz.ntmps5
  go_wp2_with fail
  have hb : Below w.heap.size w w := Below.refl _ _
  have hsz : 0 ≤ w.heap.size := Nat.zero_le _
  have hq := c_fof (n := 6) (d := -4) (w := w) (by decide) (by decide) (by decide) (by decide) (by decide)
  rw [← HX.out] at hq
  refine (hq).mono ?_
  rintro e w2 ⟨v, rfl, hv, b⟩
  clear hq
  obtain ⟨na, ao, al, ac, aO, aL, aC, rfl, ia⟩ := hv.see sX (by decide)
  clear hv
  replace hb := bstep hb b
  clear b
  obtain ⟨W3, hW3⟩ : ∃ W, W = w2.alloc (.cells #[.bool na, .slice ao al ac, .slice aO aL aC] 27) := ⟨_, rfl⟩
  have qa : QCell W3 (w2.heap.size) na (.slice ao al ac) (.slice aO aL aC) := by rw [hW3]; exact (qcell_new _ rfl)
  have b : Below w2.heap.size w2 W3 := by rw [hW3]; exact belowA _ _
  replace ia := ia.below b
  replace hb := bstep hb b
  clear b
  have rqa0 : (w2.alloc (.cells #[.bool na, .slice ao al ac, .slice aO aL aC] 27)).cell? ⟨w2.heap.size, 0, none⟩ = some (.bool na) := by rw [← hW3]; exact qa.cells.1
  have rqa1 : (w2.alloc (.cells #[.bool na, .slice ao al ac, .slice aO aL aC] 27)).cell? ⟨w2.heap.size, 1, none⟩ = some (.slice ao al ac) := by rw [← hW3]; exact qa.cells.2.1
  have rqa2 : (w2.alloc (.cells #[.bool na, .slice ao al ac, .slice aO aL aC] 27)).cell? ⟨w2.heap.size, 2, none⟩ = some (.slice aO aL aC) := by rw [← hW3]; exact qa.cells.2.2
  obtain ⟨v3, hv3⟩ : ∃ v, v = w2.heap.size := ⟨_, rfl⟩
  rw [← hv3] at qa
  have HW3 : Hid (W3 = w2.alloc (.cells #[.bool na, .slice ao al ac, .slice aO aL aC] 27)) := hW3
  have Hv3 : Hid (v3 = w2.heap.size) := hv3
  clear hW3 hv3
  go_wp2_with fail
  rw [← HW3.out, ← Hv3.out]
  clear HW3 Hv3 rqa0 rqa1 rqa2
  have hq := c_parse56 (w := W3)
  rw [← HY.out] at hq
  refine (hq).mono ?_
  rintro e w4 ⟨v, rfl, hv, b⟩
  clear hq
  obtain ⟨nb, bo, bl, bc, bO, bL, bC, rfl, ib⟩ := hv.see sY (by decide)
  clear hv
  replace ia := ia.below b
  replace qa := qa.below b
  replace hb := bstep hb b
  clear b
  obtain ⟨W5, hW5⟩ : ∃ W, W = w4.alloc (.cells #[.bool nb, .slice bo bl bc, .slice bO bL bC] 27) := ⟨_, rfl⟩
  have qb : QCell W5 (w4.heap.size) nb (.slice bo bl bc) (.slice bO bL bC) := by rw [hW5]; exact (qcell_new _ rfl)
  have b : Below w4.heap.size w4 W5 := by rw [hW5]; exact belowA _ _
  replace ia := ia.below b
  replace ib := ib.below b
  replace qa := qa.below b
  replace hb := bstep hb b
  clear b
  have rqa0 : (w4.alloc (.cells #[.bool nb, .slice bo bl bc, .slice bO bL bC] 27)).cell? ⟨v3, 0, none⟩ = some (.bool na) := by rw [← hW5]; exact qa.cells.1
  have rqa1 : (w4.alloc (.cells #[.bool nb, .slice bo bl bc, .slice bO bL bC] 27)).cell? ⟨v3, 1, none⟩ = some (.slice ao al ac) := by rw [← hW5]; exact qa.cells.2.1
  have rqa2 : (w4.alloc (.cells #[.bool nb, .slice bo bl bc, .slice bO bL bC] 27)).cell? ⟨v3, 2, none⟩ = some (.slice aO aL aC) := by rw [← hW5]; exact qa.cells.2.2
  have rqb0 : (w4.alloc (.cells #[.bool nb, .slice bo bl bc, .slice bO bL bC] 27)).cell? ⟨w4.heap.size, 0, none⟩ = some (.bool nb) := by rw [← hW5]; exact qb.cells.1
  have rqb1 : (w4.alloc (.cells #[.bool nb, .slice bo bl bc, .slice bO bL bC] 27)).cell? ⟨w4.heap.size, 1, none⟩ = some (.slice bo bl bc) := by rw [← hW5]; exact qb.cells.2.1
  have rqb2 : (w4.alloc (.cells #[.bool nb, .slice bo bl bc, .slice bO bL bC] 27)).cell? ⟨w4.heap.size, 2, none⟩ = some (.slice bO bL bC) := by rw [← hW5]; exact qb.cells.2.2
  obtain ⟨v5, hv5⟩ : ∃ v, v = w4.heap.size := ⟨_, rfl⟩
  rw [← hv5] at qb
  have HW5 : Hid (W5 = w4.alloc (.cells #[.bool nb, .slice bo bl bc, .slice bO bL bC] 27)) := hW5
  have Hv5 : Hid (v5 = w4.heap.size) := hv5
  clear hW5 hv5
  go_wp2_with fail
  rw [← HW5.out, ← Hv5.out]
  clear HW5 Hv5 rqa0 rqa1 rqa2 rqb0 rqb1 rqb2
  have hq := c_radd ia ib (by decide)
  rw [HC.out] at hq
  refine (hq).mono ?_
  rintro e w6 ⟨v, rfl, hv, b⟩
  clear hq
  obtain ⟨nc, co, cl, cc, cO, cL, cC, rfl, ic⟩ := hv.see sC (by decide)
  clear hv
  replace ia := ia.below b
  replace ib := ib.below b
  replace qa := qa.below b
  replace qb := qb.below b
  replace hb := bstep hb b
  clear b
  obtain ⟨W7, hW7⟩ : ∃ W, W = w6.alloc (.cells #[.bool nc, .slice co cl cc, .slice cO cL cC] 27) := ⟨_, rfl⟩
  have qc : QCell W7 (w6.heap.size) nc (.slice co cl cc) (.slice cO cL cC) := by rw [hW7]; exact (qcell_new _ rfl)
  have b : Below w6.heap.size w6 W7 := by rw [hW7]; exact belowA _ _
  replace ia := ia.below b
  replace ib := ib.below b
  replace ic := ic.below b
  replace qa := qa.below b
  replace qb := qb.below b
  replace hb := bstep hb b
  clear b
  have rqa0 : (w6.alloc (.cells #[.bool nc, .slice co cl cc, .slice cO cL cC] 27)).cell? ⟨v3, 0, none⟩ = some (.bool na) := by rw [← hW7]; exact qa.cells.1
  have rqa1 : (w6.alloc (.cells #[.bool nc, .slice co cl cc, .slice cO cL cC] 27)).cell? ⟨v3, 1, none⟩ = some (.slice ao al ac) := by rw [← hW7]; exact qa.cells.2.1
  have rqa2 : (w6.alloc (.cells #[.bool nc, .slice co cl cc, .slice cO cL cC] 27)).cell? ⟨v3, 2, none⟩ = some (.slice aO aL aC) := by rw [← hW7]; exact qa.cells.2.2
  have rqb0 : (w6.alloc (.cells #[.bool nc, .slice co cl cc, .slice cO cL cC] 27)).cell? ⟨v5, 0, none⟩ = some (.bool nb) := by rw [← hW7]; exact qb.cells.1
  have rqb1 : (w6.alloc (.cells #[.bool nc, .slice co cl cc, .slice cO cL cC] 27)).cell? ⟨v5, 1, none⟩ = some (.slice bo bl bc) := by rw [← hW7]; exact qb.cells.2.1
  have rqb2 : (w6.alloc (.cells #[.bool nc, .slice co cl cc, .slice cO cL cC] 27)).cell? ⟨v5, 2, none⟩ = some (.slice bO bL bC) := by rw [← hW7]; exact qb.cells.2.2
  have rqc0 : (w6.alloc (.cells #[.bool nc, .slice co cl cc, .slice cO cL cC] 27)).cell? ⟨w6.heap.size, 0, none⟩ = some (.bool nc) := by rw [← hW7]; exact qc.cells.1
  have rqc1 : (w6.alloc (.cells #[.bool nc, .slice co cl cc, .slice cO cL cC] 27)).cell? ⟨w6.heap.size, 1, none⟩ = some (.slice co cl cc) := by rw [← hW7]; exact qc.cells.2.1
  have rqc2 : (w6.alloc (.cells #[.bool nc, .slice co cl cc, .slice cO cL cC] 27)).cell? ⟨w6.heap.size, 2, none⟩ = some (.slice cO cL cC) := by rw [← hW7]; exact qc.cells.2.2
  obtain ⟨v7, hv7⟩ : ∃ v, v = w6.heap.size := ⟨_, rfl⟩
  rw [← hv7] at qc
  have HW7 : Hid (W7 = w6.alloc (.cells #[.bool nc, .slice co cl cc, .slice cO cL cC] 27)) := hW7
  have Hv7 : Hid (v7 = w6.heap.size) := hv7
  clear hW7 hv7
  go_wp2_with fail
  rw [← HW7.out, ← Hv7.out]
  clear HW7 Hv7 rqa0 rqa1 rqa2 rqb0 rqb1 rqb2 rqc0 rqc1 rqc2
  have hq := c_rtext ia (by decide)
  rw [HTX.out] at hq
  refine (hq).mono ?_
  rintro e w8 ⟨rfl, b⟩
  clear hq
  replace ia := ia.below b
  replace ib := ib.below b
  replace ic := ic.below b
  replace qa := qa.below b
  replace qb := qb.below b
  replace qc := qc.below b
  replace hb := bstep hb b
  clear b
  obtain ⟨cqa0, cqa1, cqa2⟩ := qa.cells
  obtain ⟨cqb0, cqb1, cqb2⟩ := qb.cells
  obtain ⟨cqc0, cqc1, cqc2⟩ := qc.cells
  go_wp2_with fail
  clear cqa0 cqa1 cqa2 cqb0 cqb1 cqb2 cqc0 cqc1 cqc2
  have hq := c_rtext ic (by decide)
  rw [HTC.out] at hq
  refine (hq).mono ?_
  rintro e w9 ⟨rfl, b⟩
  clear hq
  replace ia := ia.below b
  replace ib := ib.below b
  replace ic := ic.below b
  replace qa := qa.below b
  replace qb := qb.below b
  replace qc := qc.below b
  replace hb := bstep hb b
  clear b
  obtain ⟨cqa0, cqa1, cqa2⟩ := qa.cells
  obtain ⟨cqb0, cqb1, cqb2⟩ := qb.cells
  obtain ⟨cqc0, cqc1, cqc2⟩ := qc.cells
  go_wp2_with fail
  clear cqa0 cqa1 cqa2 cqb0 cqb1 cqb2 cqc0 cqc1 cqc2
  have hq := c_rsum none 0 0 0 (fun _ => 0) 0 w9 (fun h => absurd h (by decide)) (fun i hi => absurd hi (by omega)) (by decide)
  rw [show rsum (fun _ => 0) 0 = 0 from rfl] at hq
  refine (hq).mono ?_
  rintro e w10 ⟨v, rfl, hv, b⟩
  clear hq
  obtain ⟨nz, zo, zl, zc, zO, zL, zC, rfl, iz⟩ := hv.see RSz.zero (by decide)
  clear hv
  replace ia := ia.below b
  replace ib := ib.below b
  replace ic := ic.below b
  replace qa := qa.below b
  replace qb := qb.below b
  replace qc := qc.below b
  replace hb := bstep hb b
  clear b
  obtain ⟨cqa0, cqa1, cqa2⟩ := qa.cells
  obtain ⟨cqb0, cqb1, cqb2⟩ := qb.cells
  obtain ⟨cqc0, cqc1, cqc2⟩ := qc.cells
  go_wp2_with fail
  clear cqa0 cqa1 cqa2 cqb0 cqb1 cqb2 cqc0 cqc1 cqc2
  have hq := c_rtext iz (by decide)
  rw [HT0.out] at hq
  refine (hq).mono ?_
  rintro e w11 ⟨rfl, b⟩
  clear hq
  replace ia := ia.below b
  replace ib := ib.below b
  replace ic := ic.below b
  replace iz := iz.below b
  replace qa := qa.below b
  replace qb := qb.below b
  replace qc := qc.below b
  replace hb := bstep hb b
  clear b
  obtain ⟨cqa0, cqa1, cqa2⟩ := qa.cells
  obtain ⟨cqb0, cqb1, cqb2⟩ := qb.cells
  obtain ⟨cqc0, cqc1, cqc2⟩ := qc.cells
  go_wp2_with fail
  clear cqa0 cqa1 cqa2 cqb0 cqb1 cqb2 cqc0 cqc1 cqc2
  have hq := c_rcmp ia ib (by decide)
  rw [HXY.out] at hq
  refine (hq).mono ?_
  rintro e w12 ⟨rfl, b⟩
  clear hq
  replace ia := ia.below b
  replace ib := ib.below b
  replace ic := ic.below b
  replace iz := iz.below b
  replace qa := qa.below b
  replace qb := qb.below b
  replace qc := qc.below b
  replace hb := bstep hb b
  clear b
  have HE : Hid (Below w.heap.size w w12) := hb
  clear hb hsz qa qb qc ia ib ic iz
  go_wp2_with fail
  go_ret
  exact ⟨rfl, HE.out⟩
end Go.Proofs.YtnehfkbpbgmbaaaGreatDoor

namespace Go.Proofs.YtnehfkbpbgmbaaaGreatDoor
open Go.RowKit

theorem Tryz.infoR3 : (Tryz.prog.info? 27).map (fun i => (i.zero, i.size, i.bytes)) = some (some (.agg #[.bool false, .slice none 0 0, .slice none 0 0]), 3, 56) := by kernel_rfl
/-- A fraction as it stands: its cells, and what they say. -/
structure FV where
  n : Bool
  ao : Option Addr
  al : Nat
  ac : Nat
  bo : Option Addr
  bl : Nat
  bc : Nat
  xs : List Nat
  ys : List Nat
instance : Inhabited FV := ⟨⟨false, none, 0, 0, none, 0, 0, [], []⟩⟩
def FV.cells (f : FV) : List Value := [.bool f.n, .slice f.ao f.al f.ac, .slice f.bo f.bl f.bc]
/-- It can be read. -/
structure FV.At (f : FV) (w : World) : Prop where
  num : Num w (.slice f.ao f.al f.ac) f.xs
  den : Num w (.slice f.bo f.bl f.bc) f.ys
theorem FV.At.below {f : FV} {w w' : World} (h : f.At w) (hb : Below w.heap.size w w') : f.At w' := ⟨h.num.below (Nat.le_refl _) hb, h.den.below (Nat.le_refl _) hb⟩
/-- At most so many limbs. -/
def FV.cut (f : FV) (k : Nat) : FV := ⟨f.n, f.ao, min f.al k, f.ac, f.bo, min f.bl k, f.bc, f.xs.take (min f.al k), f.ys.take (min f.bl k)⟩
theorem FV.At.cut {f : FV} {w : World} (h : f.At w) (k : Nat) : (f.cut k).At w := ⟨num_cut h.num (Nat.min_le_left _ _), num_cut h.den (Nat.min_le_left _ _)⟩
theorem FV.cut_len (f : FV) (k : Nat) : (f.cut k).xs.length ≤ k ∧ (f.cut k).ys.length ≤ k := by
  constructor
  · show (f.xs.take (min f.al k)).length ≤ k
    rw [List.length_take]; omega
  · show (f.ys.take (min f.bl k)).length ≤ k
    rw [List.length_take]; omega
/-- The cells of some. -/
def fl3 (F : Nat → FV) : Nat → List Value
  | 0 => []
  | n + 1 => fl3 F n ++ (F n).cells
theorem fl3_len (F : Nat → FV) : ∀ n, (fl3 F n).length = n * 3
  | 0 => rfl
  | n + 1 => by show (fl3 F n ++ (F n).cells).length = _; rw [List.length_append, fl3_len F n]; show n * 3 + 3 = _; omega
theorem fl3_at (F : Nat → FV) : ∀ n i j, i < n → j < 3 → (fl3 F n)[i * 3 + j]? = (F i).cells[j]?
  | 0, i, j, h, _ => absurd h (Nat.not_lt_zero _)
  | n + 1, i, j, h, hj => by
    show (fl3 F n ++ (F n).cells)[i * 3 + j]? = _
    by_cases hi : i < n
    · rw [List.getElem?_append_left (by rw [fl3_len]; omega)]
      exact fl3_at F n i j hi hj
    · have : i = n := by omega
      subst this
      rw [List.getElem?_append_right (by rw [fl3_len]; omega), fl3_len]
      congr 1
      omega
theorem fl3_congr {F G : Nat → FV} : ∀ n, (∀ i, i < n → F i = G i) → fl3 F n = fl3 G n
  | 0, _ => rfl
  | n + 1, h => by show fl3 F n ++ _ = fl3 G n ++ _; rw [fl3_congr n (fun i hi => h i (by omega)), h n (by omega)]
/-- A row of fractions that is read: at each place its cells. -/
def FRow (w : World) (lo : Option Addr) (n : Nat) (F : Nat → FV) : Prop := ∀ i, i < n → (∃ b off, lo = some ⟨b, off, none⟩ ∧ w.cell? ⟨b, off + i * 3, none⟩ = some (.bool (F i).n) ∧ w.cell? ⟨b, off + i * 3 + 1, none⟩ = some (.slice (F i).ao (F i).al (F i).ac) ∧ w.cell? ⟨b, off + i * 3 + 2, none⟩ = some (.slice (F i).bo (F i).bl (F i).bc)) ∧ (F i).At w
theorem FRow.below {w w' : World} {lo : Option Addr} {n : Nat} {F : Nat → FV} (h : FRow w lo n F) (hb : Below w.heap.size w w') : FRow w' lo n F := by
  intro i hi
  obtain ⟨⟨b, off, e, h0, h1, h2⟩, h3⟩ := h i hi
  exact ⟨⟨b, off, e, keepB hb h0, keepB hb h1, keepB hb h2⟩, h3.below hb⟩
/-- Of a row of one's own. -/
theorem FRow.of_own {B n cap g : Nat} {w : World} {F : Nat → FV} (h : w.ownsRow B 27 3 (.slice (some ⟨g, 0, none⟩) n cap) n (fl3 F n)) (ha : ∀ i, i < n → (F i).At w) : FRow w (some ⟨g, 0, none⟩) n F := by
  intro i hi
  have c : ∀ j u, j < 3 → (F i).cells[j]? = some u → w.cell? ⟨g, 0 + i * 3 + j, none⟩ = some u := fun j u hj hu => by
    rw [Nat.zero_add, World.ownsRow.cellAt h (i * 3 + j) (by omega), fl3_at F n i j hi hj, hu]
  exact ⟨⟨g, 0, rfl, c 0 _ (by decide) rfl, c 1 _ (by decide) rfl, c 2 _ (by decide) rfl⟩, ha i hi⟩
theorem FRow.nil (w : World) (lo : Option Addr) (F : Nat → FV) : FRow w lo 0 F := fun _ hi => absurd hi (Nat.not_lt_zero _)
theorem cell_three_new (w : World) (a b c : Value) (t : TypeId) : ∀ j u, [a, b, c][j]? = some u → (w.alloc (.cells #[a, b, c] t)).cell? ((⟨w.heap.size, 0, none⟩ : Addr).add j) = some u := by
  intro j u h
  rw [Addr.add_lit, Nat.zero_add, World.cell?_alloc_at _ _ _ _ rfl]
  match j, h with
  | 0, h => exact h
  | 1, h => exact h
  | 2, h => exact h
  | n + 3, h => cases h
theorem rowB3 {w w' : World} {B : Nat} {e : TypeId} {sz : Nat} {v : Value} {n : Nat} {xs : List Value} (h : w.ownsRow B e sz v n xs) (hb : Below w.heap.size w w') : w'.ownsRow B e sz v n xs := by
  refine ⟨h.1, ?_⟩
  rcases h.2 with hn | ⟨g, cap, cur, hv, hb', hg, rest⟩
  · exact .inl hn
  · exact .inr ⟨g, cap, cur, hv, hb', by rw [hb.block g (Array.getElem?_eq_some_iff.1 hg).1]; exact hg, rest⟩
theorem bstepB {B : Nat} {w w1 w2 : World} (h : Below B w w1) (hB : B ≤ w1.heap.size) (h2 : Below w1.heap.size w1 w2) : Below B w w2 := h.trans (h2.mono hB)

set_option maxRecDepth 100000 in
set_option maxHeartbeats 6400000 in
theorem cutAll3 (lo : Option Addr) (n cap : Nat) (F : Nat → FV) (w : World) (hr : FRow w lo n F) (hn : n ≤ maxLen) :
    Calls Tryz.prog 30 #[.slice lo n cap] w fun e w' => ∃ v, e = .returned v ∧ w'.ownsRow w.heap.size 27 3 v (min n 30) (fl3 (fun i => (F i).cut 40) (min n 30)) ∧ Below w.heap.size w w' := by
  obtain ⟨iR, hiR, hz0, hz1, hz2⟩ := info_parts Tryz.infoR3
  have HN : Hid (n ≤ maxLen) := hn
  clear hn
  go_enter Tryz.func30, Tryz.ntmps30
  go_wp2_with fail
  go_loopw [3, 4] (fun va t wr => ∃ i : Nat, i ≤ min n 30 ∧ t = .int .i64 i ∧ wr.ownsRow w.heap.size 27 3 va i (fl3 (fun i => (F i).cut 40) i) ∧ Below w.heap.size w wr) (fun _ t _ => min n 30 - (intOf t).toNat)
  case atStart => exact ⟨0, Nat.zero_le _, rfl, World.ownsRow_nil _ _ _ _, Below.refl _ _⟩
  case round =>
    obtain ⟨i, hin, rfl, hown, hbel⟩ := hrel
    by_cases hlt : i < n
    · have hge : (i : Int) < (n : Int) := by omega
      by_cases h30 : i < 30
      · have hge2 : (i : Int) < 30 := by omega
        obtain ⟨⟨b, off, rfl, c0, c1, c2⟩, hA⟩ := hr i hlt
        clear hr
        obtain ⟨xs1, hx1⟩ : ∃ x, x = fl3 (fun i => (F i).cut 40) (i + 1) := ⟨_, rfl⟩
        have HX1 : Hid (xs1 = fl3 (fun i => (F i).cut 40) (i + 1)) := hx1
        have hP : xs1 = fl3 (fun i => (F i).cut 40) i ++ ((F i).cut 40).cells := hx1
        clear hx1
        generalize fl3 (fun i => (F i).cut 40) i = xs0 at hP hown
        have HP : Hid (xs1 = xs0 ++ ((F i).cut 40).cells) := hP
        clear hP
        replace hA := hA.below hbel
        replace c0 := keepB hbel c0
        replace c1 := keepB hbel c1
        replace c2 := keepB hbel c2
        generalize F i = f at *
        obtain ⟨nn, ao, al, ac, bo, bl, bc, xs, ys⟩ := f
        obtain ⟨h1, h2⟩ := hA
        simp only [FV.cut, FV.cells] at c0 c1 c2 h1 h2 HP
        have hq := c_cut nn ao bo al ac bl bc 40 xs ys wr h1 h2 (by decide)
        generalize min al 40 = al2 at hq HP
        generalize min bl 40 = bl2 at hq HP
        obtain ⟨va, hva⟩ : ∃ v, v = u3 := ⟨_, rfl⟩
        rw [← hva] at hown ⊢
        clear hva h1 h2
        have HO : Hid (wr.ownsRow w.heap.size 27 3 va i xs0) := hown
        have HB : Hid (Below w.heap.size w wr) := hbel
        clear hown hbel
        go_wp2_with fail
        refine hq.mono ?_
        rintro e w2 ⟨rfl, b2⟩
        clear hq c0 c1 c2
        have HO2 : Hid (w2.ownsRow w.heap.size 27 3 va i xs0) := rowB3 HO.out b2
        have HB2 : Hid (Below w.heap.size w w2) := bstepB HB.out HB.out.size b2
        clear HO HB b2
        go_wp2_with (at_builtin; refine wpList_append_own _ rfl _ _ 36 rfl w.heap.size 27 iR _ 3 56 Tryz.underlying36 hiR hz0 hz1 hz2 rfl (by decide) va i xs0 rfl (HO2.out.alloc _) ⟨w2.heap.size, 0, none⟩ 1 1 [.bool nn, .slice ao al2 ac, .slice bo bl2 bc] rfl rfl (cell_three_new _ _ _ _ _) (by simp [Value.oneCell']) (by unfold maxLen; omega) (by omega) (Nat.le_trans HB2.out.size (by simp)) ?_)
        intro v' w7 ho hgr _
        have HR : Hid (w7.ownsRow w.heap.size 27 3 v' (i + 1) xs1 ∧ Below w.heap.size w w7) := ⟨by rw [HP.out]; exact ho, (HB2.out.alloc HB2.out.size _).grown hgr (Nat.le_trans HB2.out.size (by simp)) (fun k hk => (HO2.out.lt k hk).1)⟩
        clear ho hgr HO2 HB2 HP
        go_wp2
        go_roundw
        case rel => exact ⟨i + 1, by omega, by go_num, by rw [← HX1.out]; exact HR.out.1, HR.out.2⟩
        case measure => simp [intOf]; omega
      · have hge2 : ¬ (i : Int) < 30 := by omega
        obtain rfl : i = min n 30 := by omega
        go_wp2
        go_ret
        exact ⟨_, rfl, hown, hbel⟩
    · have hge : ¬ (i : Int) < (n : Int) := by omega
      obtain rfl : i = min n 30 := by omega
      go_wp2
      go_ret
      exact ⟨_, rfl, hown, hbel⟩
end Go.Proofs.YtnehfkbpbgmbaaaGreatDoor
