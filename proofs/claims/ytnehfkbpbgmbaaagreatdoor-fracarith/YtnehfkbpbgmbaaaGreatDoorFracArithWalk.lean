/-
  Proved here: the walk of FracArith.
-/
import Derived.Test.YtnehfkbpbgmbaaaGreatDoorArithE3All
import Derived.Test.YtnehfkbpbgmbaaaGreatDoorNatDivAAll
namespace Go.Proofs.YtnehfkbpbgmbaaaGreatDoor
open Go.RowKit
/-- A row's cells. -/
def RowB (w : World) (v : Nat) (cs : Array Value) : Prop := w.heap[v]? = some (.cells cs 27 (0, 0))
theorem RowB.below {w w' : World} {v : Nat} {cs : Array Value} (h : RowB w v cs) (hb : Below w.heap.size w w') : RowB w' v cs := by
  unfold RowB; rw [hb.block _ (Array.getElem?_eq_some_iff.1 h).1]; exact h
theorem RowB.cell {w : World} {v j : Nat} {cs : Array Value} {u : Value} (h : RowB w v cs) (e : cs[j]? = some u) : w.cell? ⟨v, j, none⟩ = some u := by
  unfold RowB at h
  unfold World.cell?
  rw [h]
  exact e
def sel10 (a0 a1 a2 a3 a4 a5 a6 a7 a8 a9 : Value) : Nat → Value
  | 0 => a0
  | 1 => a1
  | 2 => a2
  | 3 => a3
  | 4 => a4
  | 5 => a5
  | 6 => a6
  | 7 => a7
  | 8 => a8
  | _ => a9
theorem perm_arith {α : Type} (f : α) (a0 b a5 c : List α) : (f :: (a0 ++ (b ++ (a5 ++ c)))).Perm (a0 ++ (a5 ++ (b ++ (c ++ [f])))) := by
  refine (List.perm_append_singleton f _).symm.trans ?_
  rw [List.append_assoc, List.append_assoc, List.append_assoc]
  refine List.Perm.append_left a0 ?_
  rw [← List.append_assoc b, ← List.append_assoc a5]
  exact List.Perm.append_right _ List.perm_append_comm
theorem apart_base {B : Nat} {w : World} {gs : List Value} {ys : Nat → List Nat} {v : Value} (hf : Fam B w gs ys) (hv : ∀ k, v.ownBlock = some k → k < B) : ∀ j, j < gs.length → (at_ gs j).ownBlock = none ∨ (at_ gs j).ownBlock ≠ v.ownBlock := by
  intro j hj
  cases h : (at_ gs j).ownBlock with
  | none => exact Or.inl rfl
  | some k =>
    refine Or.inr fun e => ?_
    have h1 := ((hf j hj).block k h).1
    have h2 := hv k e.symm
    omega
theorem bstepA {B : Nat} {w w1 : World} (h : Below B w w1) (hB : B ≤ w1.heap.size) (o : Obj) : Below B w (w1.alloc o) := h.trans ((belowA w1 o).mono hB)
theorem Bag.below {B : Nat} {w w' : World} {l : List (Value × List Nat)} (h : Bag B w l) (hb : Below w.heap.size w w') : Bag B w' l := h.step hb
theorem QCell.bexA {B : Nat} {gs : List Value} {ys : Nat → List Nat} {w w' : World} {g : Nat} {n : Bool} {m d : Value} (h : QCell w g n m d) (hb : Bex gs w w') (hf : Fam B w gs ys) : QCell w' g n m d := by
  have h' : w.heap[g]? = some (.cells #[.bool n, m, d] 27 (0, 0)) := h
  show w'.heap[g]? = some (.cells #[.bool n, m, d] 27 (0, 0))
  rw [hb.block g (Array.getElem?_eq_some_iff.1 h').1 (fun j hj e => ?_)]
  · exact h'
  · obtain ⟨o, l, c, hv⟩ := (hf j hj).sl
    have ho := hf j hj
    rw [hv] at ho e
    cases o with
    | none => cases e
    | some a =>
      obtain ⟨b, of, sp⟩ := a
      rcases ho.shape with ⟨hs, _⟩ | ⟨g2, cap, hs, _, _⟩
      · cases hs
      · simp only [Value.slice.injEq, Option.some.injEq, Addr.mk.injEq] at hs
        obtain ⟨⟨rfl, rfl, rfl⟩, _, _⟩ := hs
        have eb : b = g := Option.some.inj e
        obtain ⟨_, _, cur, hh, _⟩ := ho.heap
        rw [eb, h'] at hh
        simp only [Option.some.injEq, Obj.cells.injEq] at hh
        exact absurd hh.2.1 (by decide)
set_option maxRecDepth 100000 in
set_option maxHeartbeats 6400000 in
theorem fracArith_top (na : Bool) (ao aO : Option Addr) (al ac aL aC : Nat) (xa ya : List Nat) (nb : Bool) (bo bO : Option Addr) (bl bc bL bC : Nat) (xb yb : List Nat) (w : World) (ua : Num w (.slice ao al ac) xa) (va : Num w (.slice aO aL aC) ya) (ub : Num w (.slice bo bl bc) xb) (vb : Num w (.slice bO bL bC) yb) :
    Calls Tryz.prog 3 #[.agg #[.bool na, .slice ao al ac, .slice aO aL aC], .agg #[.bool nb, .slice bo bl bc, .slice bO bL bC]] w fun e w' => e = .returned (.bool true) ∧ Below w.heap.size w w' := by
  have h1 := (num_len ua).1
  have h2 := (num_len va).1
  have ua2 := num_cut ua (k := min al 40) (Nat.min_le_left _ _)
  have va2 := num_cut va (k := min aL 40) (Nat.min_le_left _ _)
  have HLA : Hid ((xa.take (min al 40)).length ≤ 40) := by show _ ≤ _; rw [List.length_take]; omega
  have HLa : Hid ((ya.take (min aL 40)).length ≤ 40) := by show _ ≤ _; rw [List.length_take]; omega
  clear h1 h2
  have h1 := (num_len ub).1
  have h2 := (num_len vb).1
  have ub2 := num_cut ub (k := min bl 40) (Nat.min_le_left _ _)
  have vb2 := num_cut vb (k := min bL 40) (Nat.min_le_left _ _)
  have HLB : Hid ((xb.take (min bl 40)).length ≤ 40) := by show _ ≤ _; rw [List.length_take]; omega
  have HLb : Hid ((yb.take (min bL 40)).length ≤ 40) := by show _ ≤ _; rw [List.length_take]; omega
  clear h1 h2
  obtain ⟨W1, hW1⟩ : ∃ W1, W1 = (w.alloc (.cells #[.bool na, .slice ao al ac, .slice aO aL aC] 27)).alloc (.cells #[.bool nb, .slice bo bl bc, .slice bO bL bC] 27) := ⟨_, rfl⟩
  have qa : QCell W1 (w.heap.size) na (.slice ao al ac) (.slice aO aL aC) := by rw [hW1]; exact (qcell_step (qcell_new _ (by simp)))
  have qb : QCell W1 (w.heap.size + 1) nb (.slice bo bl bc) (.slice bO bL bC) := by rw [hW1]; exact (qcell_new _ (by simp))
  have hb : Below w.heap.size w W1 := by rw [hW1]; exact bstep (belowA w _) (belowA _ _)
  have hsz : w.heap.size + 1 < W1.heap.size := by rw [hW1]; simp
  have HW1 : Hid (W1 = (w.alloc (.cells #[.bool na, .slice ao al ac, .slice aO aL aC] 27)).alloc (.cells #[.bool nb, .slice bo bl bc, .slice bO bL bC] 27)) := hW1
  clear hW1
  go_enter Tryz.func3, Tryz.ntmps3
  go_wp2_with fail
  rw [← HW1.out]
  clear HW1
  obtain ⟨g, hg⟩ : ∃ g, g = w.heap.size := ⟨_, rfl⟩
  rw [← hg] at qa qb hsz ⊢
  have HG : Hid (g = w.heap.size) := hg
  clear hg
  refine (l_awake).mono ?_
  rintro e w2 ⟨rfl, b⟩
  replace qa := qa.below b
  replace qb := qb.below b
  replace hb := bstep hb b
  replace hsz := Nat.lt_of_lt_of_le hsz b.size
  clear b
  obtain ⟨cqa0, cqa1, cqa2⟩ := qa.cells
  obtain ⟨cqb0, cqb1, cqb2⟩ := qb.cells
  go_wp2_with fail
  clear cqa0 cqa1 cqa2 cqb0 cqb1 cqb2
  refine (c_cut na ao aO al ac aL aC 40 xa ya _ (ua.below (Nat.le_refl _) hb) (va.below (Nat.le_refl _) hb) (by decide)).mono ?_
  rintro e w3 ⟨rfl, b⟩
  replace qa := qa.below b
  replace qb := qb.below b
  replace hb := bstep hb b
  replace hsz := Nat.lt_of_lt_of_le hsz b.size
  clear b
  generalize min al 40 = al2 at *
  generalize xa.take al2 = xa2 at *
  generalize min aL 40 = aL2 at *
  generalize ya.take aL2 = ya2 at *
  obtain ⟨y0, y1, y2⟩ := qa.cells
  have f0 := qa.thaw 0
  have f1 := qa.thaw 1
  have f2 := qa.thaw 2
  obtain ⟨X4, hX4⟩ : ∃ X, X = (((w3.setCell ⟨g, 0, none⟩ (.bool na)).setCell ⟨g, 1, none⟩ (.slice ao al2 ac)).setCell ⟨g, 2, none⟩ (.slice aO aL2 aC)) := ⟨_, rfl⟩
  have qa_ : QCell X4 (g) na (.slice ao al2 ac) (.slice aO aL2 aC) := by rw [hX4]; exact qa.write _ _ _
  have qb_ : QCell X4 (g + 1) nb (.slice bo bl bc) (.slice bO bL bC) := by rw [hX4]; exact ((qb.other (by omega) _ _).other (by omega) _ _).other (by omega) _ _
  replace hb : Below w.heap.size w X4 := by rw [hX4]; exact iend3 hb (by rw [HG.out]; omega)
  replace hsz : g + 1 < X4.heap.size := by rw [hX4]; simpa [World.setCell] using hsz
  replace qa := qa_
  clear qa_
  have rqa0 : ((((w3.setCell ⟨g, 0, none⟩ (.bool na)).setCell ⟨g, 1, none⟩ (.slice ao al2 ac)).setCell ⟨g, 2, none⟩ (.slice aO aL2 aC))).cell? ⟨g, 0, none⟩ = some (.bool na) := by rw [← hX4]; exact qa.cells.1
  have rqa1 : ((((w3.setCell ⟨g, 0, none⟩ (.bool na)).setCell ⟨g, 1, none⟩ (.slice ao al2 ac)).setCell ⟨g, 2, none⟩ (.slice aO aL2 aC))).cell? ⟨g, 1, none⟩ = some (.slice ao al2 ac) := by rw [← hX4]; exact qa.cells.2.1
  have rqa2 : ((((w3.setCell ⟨g, 0, none⟩ (.bool na)).setCell ⟨g, 1, none⟩ (.slice ao al2 ac)).setCell ⟨g, 2, none⟩ (.slice aO aL2 aC))).cell? ⟨g, 2, none⟩ = some (.slice aO aL2 aC) := by rw [← hX4]; exact qa.cells.2.2
  replace qb := qb_
  clear qb_
  have rqb0 : ((((w3.setCell ⟨g, 0, none⟩ (.bool na)).setCell ⟨g, 1, none⟩ (.slice ao al2 ac)).setCell ⟨g, 2, none⟩ (.slice aO aL2 aC))).cell? ⟨g + 1, 0, none⟩ = some (.bool nb) := by rw [← hX4]; exact qb.cells.1
  have rqb1 : ((((w3.setCell ⟨g, 0, none⟩ (.bool na)).setCell ⟨g, 1, none⟩ (.slice ao al2 ac)).setCell ⟨g, 2, none⟩ (.slice aO aL2 aC))).cell? ⟨g + 1, 1, none⟩ = some (.slice bo bl bc) := by rw [← hX4]; exact qb.cells.2.1
  have rqb2 : ((((w3.setCell ⟨g, 0, none⟩ (.bool na)).setCell ⟨g, 1, none⟩ (.slice ao al2 ac)).setCell ⟨g, 2, none⟩ (.slice aO aL2 aC))).cell? ⟨g + 1, 2, none⟩ = some (.slice bO bL bC) := by rw [← hX4]; exact qb.cells.2.2
  have HX4 : Hid (X4 = (((w3.setCell ⟨g, 0, none⟩ (.bool na)).setCell ⟨g, 1, none⟩ (.slice ao al2 ac)).setCell ⟨g, 2, none⟩ (.slice aO aL2 aC))) := hX4
  clear hX4
  go_wp2_with fail
  rw [← HX4.out]
  clear HX4 y0 y1 y2 f0 f1 f2 rqa0 rqa1 rqa2 rqb0 rqb1 rqb2
  refine (c_cut nb bo bO bl bc bL bC 40 xb yb _ (ub.below (Nat.le_refl _) hb) (vb.below (Nat.le_refl _) hb) (by decide)).mono ?_
  rintro e w5 ⟨rfl, b⟩
  replace qa := qa.below b
  replace qb := qb.below b
  replace hb := bstep hb b
  replace hsz := Nat.lt_of_lt_of_le hsz b.size
  clear b
  generalize min bl 40 = bl2 at *
  generalize xb.take bl2 = xb2 at *
  generalize min bL 40 = bL2 at *
  generalize yb.take bL2 = yb2 at *
  obtain ⟨y0, y1, y2⟩ := qb.cells
  have f0 := qb.thaw 0
  have f1 := qb.thaw 1
  have f2 := qb.thaw 2
  obtain ⟨X6, hX6⟩ : ∃ X, X = (((w5.setCell ⟨g + 1, 0, none⟩ (.bool nb)).setCell ⟨g + 1, 1, none⟩ (.slice bo bl2 bc)).setCell ⟨g + 1, 2, none⟩ (.slice bO bL2 bC)) := ⟨_, rfl⟩
  have qb_ : QCell X6 (g + 1) nb (.slice bo bl2 bc) (.slice bO bL2 bC) := by rw [hX6]; exact qb.write _ _ _
  have qa_ : QCell X6 (g) na (.slice ao al2 ac) (.slice aO aL2 aC) := by rw [hX6]; exact ((qa.other (by omega) _ _).other (by omega) _ _).other (by omega) _ _
  replace hb : Below w.heap.size w X6 := by rw [hX6]; exact iend3 hb (by rw [HG.out]; omega)
  replace hsz : g + 1 < X6.heap.size := by rw [hX6]; simpa [World.setCell] using hsz
  replace qa := qa_
  clear qa_
  have rqa0 : ((((w5.setCell ⟨g + 1, 0, none⟩ (.bool nb)).setCell ⟨g + 1, 1, none⟩ (.slice bo bl2 bc)).setCell ⟨g + 1, 2, none⟩ (.slice bO bL2 bC))).cell? ⟨g, 0, none⟩ = some (.bool na) := by rw [← hX6]; exact qa.cells.1
  have rqa1 : ((((w5.setCell ⟨g + 1, 0, none⟩ (.bool nb)).setCell ⟨g + 1, 1, none⟩ (.slice bo bl2 bc)).setCell ⟨g + 1, 2, none⟩ (.slice bO bL2 bC))).cell? ⟨g, 1, none⟩ = some (.slice ao al2 ac) := by rw [← hX6]; exact qa.cells.2.1
  have rqa2 : ((((w5.setCell ⟨g + 1, 0, none⟩ (.bool nb)).setCell ⟨g + 1, 1, none⟩ (.slice bo bl2 bc)).setCell ⟨g + 1, 2, none⟩ (.slice bO bL2 bC))).cell? ⟨g, 2, none⟩ = some (.slice aO aL2 aC) := by rw [← hX6]; exact qa.cells.2.2
  replace qb := qb_
  clear qb_
  have rqb0 : ((((w5.setCell ⟨g + 1, 0, none⟩ (.bool nb)).setCell ⟨g + 1, 1, none⟩ (.slice bo bl2 bc)).setCell ⟨g + 1, 2, none⟩ (.slice bO bL2 bC))).cell? ⟨g + 1, 0, none⟩ = some (.bool nb) := by rw [← hX6]; exact qb.cells.1
  have rqb1 : ((((w5.setCell ⟨g + 1, 0, none⟩ (.bool nb)).setCell ⟨g + 1, 1, none⟩ (.slice bo bl2 bc)).setCell ⟨g + 1, 2, none⟩ (.slice bO bL2 bC))).cell? ⟨g + 1, 1, none⟩ = some (.slice bo bl2 bc) := by rw [← hX6]; exact qb.cells.2.1
  have rqb2 : ((((w5.setCell ⟨g + 1, 0, none⟩ (.bool nb)).setCell ⟨g + 1, 1, none⟩ (.slice bo bl2 bc)).setCell ⟨g + 1, 2, none⟩ (.slice bO bL2 bC))).cell? ⟨g + 1, 2, none⟩ = some (.slice bO bL2 bC) := by rw [← hX6]; exact qb.cells.2.2
  have HX6 : Hid (X6 = (((w5.setCell ⟨g + 1, 0, none⟩ (.bool nb)).setCell ⟨g + 1, 1, none⟩ (.slice bo bl2 bc)).setCell ⟨g + 1, 2, none⟩ (.slice bO bL2 bC))) := hX6
  clear hX6
  go_wp2_with fail
  rw [← HX6.out]
  clear HX6 y0 y1 y2 f0 f1 f2 rqa0 rqa1 rqa2 rqb0 rqb1 rqb2
  clear ua
  have ua := ua2.below (Nat.le_refl _) hb
  clear va
  have va := va2.below (Nat.le_refl _) hb
  clear ub
  have ub := ub2.below (Nat.le_refl _) hb
  clear vb
  have vb := vb2.below (Nat.le_refl _) hb
  have HU : Hid (Num w (.slice ao al2 ac) xa2 ∧ Num w (.slice aO aL2 aC) ya2 ∧ Num w (.slice bo bl2 bc) xb2 ∧ Num w (.slice bO bL2 bC) yb2) := ⟨ua2, va2, ub2, vb2⟩
  clear ua2 va2 ub2 vb2
  refine (lend3 na ao aO al2 ac aL2 aC xa2 ya2 _ ua va (Nat.le_trans HLA.out (by decide)) (Nat.le_trans HLa.out (by decide))).mono ?_
  rintro e w7 ⟨u, v, rfl, ra, rb, _, b⟩
  obtain ⟨uo, ul, uc, rfl⟩ := ra.own.sl
  obtain ⟨vo, vl, vc, rfl⟩ := rb.own.sl
  replace ua := ua.below (Nat.le_refl _) b
  replace va := va.below (Nat.le_refl _) b
  replace ub := ub.below (Nat.le_refl _) b
  replace vb := vb.below (Nat.le_refl _) b
  replace qa := qa.below b
  replace qb := qb.below b
  replace hb := bstep hb b
  replace hsz := Nat.lt_of_lt_of_le hsz b.size
  clear b
  have hq0 : QCell (w7.alloc (.cells #[.bool false, .slice none 0 0, .slice none 0 0] 27)) w7.heap.size false (.slice none 0 0) (.slice none 0 0) := qcell_new _ rfl
  obtain ⟨W8, hW8⟩ : ∃ W, W = w7.alloc (.cells #[.bool na, .slice uo ul uc, .slice vo vl vc] 27) := ⟨_, rfl⟩
  have qu : QCell W8 (w7.heap.size) na (.slice uo ul uc) (.slice vo vl vc) := by rw [hW8]; exact qcell_new _ rfl
  have b : Below w7.heap.size w7 W8 := by rw [hW8]; exact belowA _ _
  obtain ⟨z0, z1, z2⟩ := hq0.cells
  have t0 := hq0.thaw 0
  have t1 := hq0.thaw 1
  have t2 := hq0.thaw 2
  clear hq0
  replace ua := ua.below (Nat.le_refl _) b
  replace va := va.below (Nat.le_refl _) b
  replace ub := ub.below (Nat.le_refl _) b
  replace vb := vb.below (Nat.le_refl _) b
  replace ra := ra.below b
  replace rb := rb.below b
  replace qa := qa.below b
  replace qb := qb.below b
  replace hb := bstep hb b
  replace hsz := Nat.lt_of_lt_of_le hsz b.size
  clear b
  have rqa0 : (w7.alloc (.cells #[.bool na, .slice uo ul uc, .slice vo vl vc] 27)).cell? ⟨g, 0, none⟩ = some (.bool na) := by rw [← hW8]; exact qa.cells.1
  have rqa1 : (w7.alloc (.cells #[.bool na, .slice uo ul uc, .slice vo vl vc] 27)).cell? ⟨g, 1, none⟩ = some (.slice ao al2 ac) := by rw [← hW8]; exact qa.cells.2.1
  have rqa2 : (w7.alloc (.cells #[.bool na, .slice uo ul uc, .slice vo vl vc] 27)).cell? ⟨g, 2, none⟩ = some (.slice aO aL2 aC) := by rw [← hW8]; exact qa.cells.2.2
  have rqb0 : (w7.alloc (.cells #[.bool na, .slice uo ul uc, .slice vo vl vc] 27)).cell? ⟨g + 1, 0, none⟩ = some (.bool nb) := by rw [← hW8]; exact qb.cells.1
  have rqb1 : (w7.alloc (.cells #[.bool na, .slice uo ul uc, .slice vo vl vc] 27)).cell? ⟨g + 1, 1, none⟩ = some (.slice bo bl2 bc) := by rw [← hW8]; exact qb.cells.2.1
  have rqb2 : (w7.alloc (.cells #[.bool na, .slice uo ul uc, .slice vo vl vc] 27)).cell? ⟨g + 1, 2, none⟩ = some (.slice bO bL2 bC) := by rw [← hW8]; exact qb.cells.2.2
  have rqu0 : (w7.alloc (.cells #[.bool na, .slice uo ul uc, .slice vo vl vc] 27)).cell? ⟨w7.heap.size, 0, none⟩ = some (.bool na) := by rw [← hW8]; exact qu.cells.1
  have rqu1 : (w7.alloc (.cells #[.bool na, .slice uo ul uc, .slice vo vl vc] 27)).cell? ⟨w7.heap.size, 1, none⟩ = some (.slice uo ul uc) := by rw [← hW8]; exact qu.cells.2.1
  have rqu2 : (w7.alloc (.cells #[.bool na, .slice uo ul uc, .slice vo vl vc] 27)).cell? ⟨w7.heap.size, 2, none⟩ = some (.slice vo vl vc) := by rw [← hW8]; exact qu.cells.2.2
  obtain ⟨v8, hv8⟩ : ∃ v, v = w7.heap.size := ⟨_, rfl⟩
  rw [← hv8] at qu
  have HW8 : Hid (W8 = w7.alloc (.cells #[.bool na, .slice uo ul uc, .slice vo vl vc] 27)) := hW8
  have Hv8 : Hid (v8 = w7.heap.size) := hv8
  clear hW8 hv8
  go_wp2_with fail
  rw [← HW8.out, ← Hv8.out]
  clear HW8 Hv8 z0 t0 z1 t1 z2 t2 rqa0 rqa1 rqa2 rqb0 rqb1 rqb2 rqu0 rqu1 rqu2 
  refine (lend3 nb bo bO bl2 bc bL2 bC xb2 yb2 _ ub vb (Nat.le_trans HLB.out (by decide)) (Nat.le_trans HLb.out (by decide))).mono ?_
  rintro e w9 ⟨u, v, rfl, rc, rd, _, b⟩
  obtain ⟨eo, el, ec, rfl⟩ := rc.own.sl
  obtain ⟨fo, fl, fc, rfl⟩ := rd.own.sl
  replace ua := ua.below (Nat.le_refl _) b
  replace va := va.below (Nat.le_refl _) b
  replace ub := ub.below (Nat.le_refl _) b
  replace vb := vb.below (Nat.le_refl _) b
  replace ra := ra.below b
  replace rb := rb.below b
  replace qa := qa.below b
  replace qb := qb.below b
  replace qu := qu.below b
  replace hb := bstep hb b
  replace hsz := Nat.lt_of_lt_of_le hsz b.size
  clear b
  have hq0 : QCell (w9.alloc (.cells #[.bool false, .slice none 0 0, .slice none 0 0] 27)) w9.heap.size false (.slice none 0 0) (.slice none 0 0) := qcell_new _ rfl
  obtain ⟨W10, hW10⟩ : ∃ W, W = w9.alloc (.cells #[.bool nb, .slice eo el ec, .slice fo fl fc] 27) := ⟨_, rfl⟩
  have qv : QCell W10 (w9.heap.size) nb (.slice eo el ec) (.slice fo fl fc) := by rw [hW10]; exact qcell_new _ rfl
  have b : Below w9.heap.size w9 W10 := by rw [hW10]; exact belowA _ _
  obtain ⟨z0, z1, z2⟩ := hq0.cells
  have t0 := hq0.thaw 0
  have t1 := hq0.thaw 1
  have t2 := hq0.thaw 2
  clear hq0
  replace ua := ua.below (Nat.le_refl _) b
  replace va := va.below (Nat.le_refl _) b
  replace ub := ub.below (Nat.le_refl _) b
  replace vb := vb.below (Nat.le_refl _) b
  replace ra := ra.below b
  replace rb := rb.below b
  replace rc := rc.below b
  replace rd := rd.below b
  replace qa := qa.below b
  replace qb := qb.below b
  replace qu := qu.below b
  replace hb := bstep hb b
  replace hsz := Nat.lt_of_lt_of_le hsz b.size
  clear b
  have rqa0 : (w9.alloc (.cells #[.bool nb, .slice eo el ec, .slice fo fl fc] 27)).cell? ⟨g, 0, none⟩ = some (.bool na) := by rw [← hW10]; exact qa.cells.1
  have rqa1 : (w9.alloc (.cells #[.bool nb, .slice eo el ec, .slice fo fl fc] 27)).cell? ⟨g, 1, none⟩ = some (.slice ao al2 ac) := by rw [← hW10]; exact qa.cells.2.1
  have rqa2 : (w9.alloc (.cells #[.bool nb, .slice eo el ec, .slice fo fl fc] 27)).cell? ⟨g, 2, none⟩ = some (.slice aO aL2 aC) := by rw [← hW10]; exact qa.cells.2.2
  have rqb0 : (w9.alloc (.cells #[.bool nb, .slice eo el ec, .slice fo fl fc] 27)).cell? ⟨g + 1, 0, none⟩ = some (.bool nb) := by rw [← hW10]; exact qb.cells.1
  have rqb1 : (w9.alloc (.cells #[.bool nb, .slice eo el ec, .slice fo fl fc] 27)).cell? ⟨g + 1, 1, none⟩ = some (.slice bo bl2 bc) := by rw [← hW10]; exact qb.cells.2.1
  have rqb2 : (w9.alloc (.cells #[.bool nb, .slice eo el ec, .slice fo fl fc] 27)).cell? ⟨g + 1, 2, none⟩ = some (.slice bO bL2 bC) := by rw [← hW10]; exact qb.cells.2.2
  have rqu0 : (w9.alloc (.cells #[.bool nb, .slice eo el ec, .slice fo fl fc] 27)).cell? ⟨v8, 0, none⟩ = some (.bool na) := by rw [← hW10]; exact qu.cells.1
  have rqu1 : (w9.alloc (.cells #[.bool nb, .slice eo el ec, .slice fo fl fc] 27)).cell? ⟨v8, 1, none⟩ = some (.slice uo ul uc) := by rw [← hW10]; exact qu.cells.2.1
  have rqu2 : (w9.alloc (.cells #[.bool nb, .slice eo el ec, .slice fo fl fc] 27)).cell? ⟨v8, 2, none⟩ = some (.slice vo vl vc) := by rw [← hW10]; exact qu.cells.2.2
  have rqv0 : (w9.alloc (.cells #[.bool nb, .slice eo el ec, .slice fo fl fc] 27)).cell? ⟨w9.heap.size, 0, none⟩ = some (.bool nb) := by rw [← hW10]; exact qv.cells.1
  have rqv1 : (w9.alloc (.cells #[.bool nb, .slice eo el ec, .slice fo fl fc] 27)).cell? ⟨w9.heap.size, 1, none⟩ = some (.slice eo el ec) := by rw [← hW10]; exact qv.cells.2.1
  have rqv2 : (w9.alloc (.cells #[.bool nb, .slice eo el ec, .slice fo fl fc] 27)).cell? ⟨w9.heap.size, 2, none⟩ = some (.slice fo fl fc) := by rw [← hW10]; exact qv.cells.2.2
  obtain ⟨v10, hv10⟩ : ∃ v, v = w9.heap.size := ⟨_, rfl⟩
  rw [← hv10] at qv
  have HW10 : Hid (W10 = w9.alloc (.cells #[.bool nb, .slice eo el ec, .slice fo fl fc] 27)) := hW10
  have Hv10 : Hid (v10 = w9.heap.size) := hv10
  clear hW10 hv10
  go_wp2_with fail
  rw [← HW10.out, ← Hv10.out]
  clear HW10 Hv10 z0 t0 z1 t1 z2 t2 rqa0 rqa1 rqa2 rqb0 rqb1 rqb2 rqu0 rqu1 rqu2 rqv0 rqv1 rqv2 
  have hX : RV W10 (.agg #[.bool na, .slice ao al2 ac, .slice aO aL2 aC]) (zv na (val xa2)) (val ya2) := RV.of ua va HLA.out HLa.out
  have hY : RV W10 (.agg #[.bool nb, .slice bo bl2 bc, .slice bO bL2 bC]) (zv nb (val xb2)) (val yb2) := RV.of ub vb HLB.out HLb.out
  have hA : RV W10 (.agg #[.bool na, .slice uo ul uc, .slice vo vl vc]) (zv na (val xa2)) (val ya2) := RV.of ra.own.num rb.own.num HLA.out HLa.out
  have hB : RV W10 (.agg #[.bool nb, .slice eo el ec, .slice fo fl fc]) (zv nb (val xb2)) (val yb2) := RV.of rc.own.num rd.own.num HLB.out HLb.out
  clear ua va ub vb
  generalize zv na (val xa2) = p at *
  generalize val ya2 = q at *
  generalize zv nb (val xb2) = r at *
  generalize val yb2 = k at *
  obtain ⟨B0, hB0e⟩ : ∃ B, B = W10.heap.size := ⟨_, rfl⟩
  have hB0 : B0 ≤ W10.heap.size := Nat.le_of_eq hB0e
  have HWB : Hid (w.heap.size ≤ B0) := by show _ ≤ _; rw [hB0e]; exact hb.size
  have HBag : Bag B0 W10 [] := Bag.nil _ _
  have HRA : Hid (∀ k, (.slice uo ul uc : Value).ownBlock = some k → k < B0) := fun k e => by rw [hB0e]; exact (ra.own.block k e).2
  have HRB : Hid (∀ k, (.slice vo vl vc : Value).ownBlock = some k → k < B0) := fun k e => by rw [hB0e]; exact (rb.own.block k e).2
  have HRC : Hid (∀ k, (.slice eo el ec : Value).ownBlock = some k → k < B0) := fun k e => by rw [hB0e]; exact (rc.own.block k e).2
  have HRD : Hid (∀ k, (.slice fo fl fc : Value).ownBlock = some k → k < B0) := fun k e => by rw [hB0e]; exact (rd.own.block k e).2
  have F0 := fun W (h0 : RV W (.agg #[.bool na, .slice uo ul uc, .slice vo vl vc]) p q) => ((aNormF h0).mono fun _ _ h => h.x)
  have R0 := fun W (h0 : RV W (.agg #[.bool na, .slice ao al2 ac, .slice aO aL2 aC]) p q) => ((aNormR h0).mono fun _ _ h => h.x)
  have HL0 : Hid _ := ln_norm hX
  unfold TEx at F0 R0
  generalize nS p q = s0 at *
  generalize nE q = e0 at *
  generalize nM p q = m0 at *
  generalize nD p q = d0 at *
  obtain ⟨l0, hl0⟩ : ∃ l, l = m0.length := ⟨_, rfl⟩
  obtain ⟨L0, hL0⟩ : ∃ l, l = d0.length := ⟨_, rfl⟩
  simp only [← hl0, ← hL0] at F0 R0
  clear hl0 hL0
  have F1 := fun W (h0 : RV W (.agg #[.bool na, .slice uo ul uc, .slice vo vl vc]) p q) => (aNegF h0)
  have R1 := fun W (h0 : RV W (.agg #[.bool na, .slice ao al2 ac, .slice aO aL2 aC]) p q) => (aNegR h0)
  have HL1 : Hid _ := ln_neg hX
  unfold AR AE at F1 R1
  unfold Ln at HL1
  generalize decide ((-rq p q).num < 0) = s1 at *
  generalize lim (-rq p q).num.natAbs = m1 at *
  generalize lim (-rq p q).den = d1 at *
  obtain ⟨l1, hl1⟩ : ∃ l, l = m1.length := ⟨_, rfl⟩
  obtain ⟨L1, hL1⟩ : ∃ l, l = d1.length := ⟨_, rfl⟩
  simp only [← hl1, ← hL1] at F1 R1
  clear hl1 hL1
  have F2 := fun W (h0 : RV W (.agg #[.bool na, .slice uo ul uc, .slice vo vl vc]) p q) (h1 : RV W (.agg #[.bool nb, .slice eo el ec, .slice fo fl fc]) r k) => (aAddF h0 h1)
  have R2 := fun W (h0 : RV W (.agg #[.bool na, .slice ao al2 ac, .slice aO aL2 aC]) p q) (h1 : RV W (.agg #[.bool nb, .slice bo bl2 bc, .slice bO bL2 bC]) r k) => (aAddR h0 h1)
  have HL2 : Hid _ := ln_add hX hY
  unfold AR AE at F2 R2
  unfold Ln at HL2
  generalize decide ((rq p q + rq r k).num < 0) = s2 at *
  generalize lim (rq p q + rq r k).num.natAbs = m2 at *
  generalize lim (rq p q + rq r k).den = d2 at *
  obtain ⟨l2, hl2⟩ : ∃ l, l = m2.length := ⟨_, rfl⟩
  obtain ⟨L2, hL2⟩ : ∃ l, l = d2.length := ⟨_, rfl⟩
  simp only [← hl2, ← hL2] at F2 R2
  clear hl2 hL2
  have F3 := fun W (h0 : RV W (.agg #[.bool na, .slice uo ul uc, .slice vo vl vc]) p q) (h1 : RV W (.agg #[.bool nb, .slice eo el ec, .slice fo fl fc]) r k) => (aSubF h0 h1)
  have R3 := fun W (h0 : RV W (.agg #[.bool na, .slice ao al2 ac, .slice aO aL2 aC]) p q) (h1 : RV W (.agg #[.bool nb, .slice bo bl2 bc, .slice bO bL2 bC]) r k) => (aSubR h0 h1)
  have HL3 : Hid _ := ln_sub hX hY
  unfold AR AE at F3 R3
  unfold Ln at HL3
  generalize decide ((rq p q - rq r k).num < 0) = s3 at *
  generalize lim (rq p q - rq r k).num.natAbs = m3 at *
  generalize lim (rq p q - rq r k).den = d3 at *
  obtain ⟨l3, hl3⟩ : ∃ l, l = m3.length := ⟨_, rfl⟩
  obtain ⟨L3, hL3⟩ : ∃ l, l = d3.length := ⟨_, rfl⟩
  simp only [← hl3, ← hL3] at F3 R3
  clear hl3 hL3
  have F4 := fun W (h0 : RV W (.agg #[.bool na, .slice uo ul uc, .slice vo vl vc]) p q) (h1 : RV W (.agg #[.bool nb, .slice eo el ec, .slice fo fl fc]) r k) => (aMulF h0 h1)
  have R4 := fun W (h0 : RV W (.agg #[.bool na, .slice ao al2 ac, .slice aO aL2 aC]) p q) (h1 : RV W (.agg #[.bool nb, .slice bo bl2 bc, .slice bO bL2 bC]) r k) => (aMulR h0 h1)
  have HL4 : Hid _ := ln_mul hX hY
  unfold AR AE at F4 R4
  unfold Ln at HL4
  generalize decide ((rq p q * rq r k).num < 0) = s4 at *
  generalize lim (rq p q * rq r k).num.natAbs = m4 at *
  generalize lim (rq p q * rq r k).den = d4 at *
  obtain ⟨l4, hl4⟩ : ∃ l, l = m4.length := ⟨_, rfl⟩
  obtain ⟨L4, hL4⟩ : ∃ l, l = d4.length := ⟨_, rfl⟩
  simp only [← hl4, ← hL4] at F4 R4
  clear hl4 hL4
  have F5 := fun W (h0 : RV W (.agg #[.bool na, .slice uo ul uc, .slice vo vl vc]) p q) (h1 : RV W (.agg #[.bool nb, .slice eo el ec, .slice fo fl fc]) r k) => ((aDivF h0 h1).mono fun _ _ h => h.x)
  have R5 := fun W (h0 : RV W (.agg #[.bool na, .slice ao al2 ac, .slice aO aL2 aC]) p q) (h1 : RV W (.agg #[.bool nb, .slice bo bl2 bc, .slice bO bL2 bC]) r k) => ((aDivR h0 h1).mono fun _ _ h => h.x)
  have HL5 : Hid _ := ln_div hX hY
  unfold TEx at F5 R5
  generalize nS (rq p q / rq r k).num (dQ (rq p q) (rq r k)) = s5 at *
  generalize nE (dQ (rq p q) (rq r k)) = e5 at *
  generalize nM (rq p q / rq r k).num (dQ (rq p q) (rq r k)) = m5 at *
  generalize nD (rq p q / rq r k).num (dQ (rq p q) (rq r k)) = d5 at *
  obtain ⟨l5, hl5⟩ : ∃ l, l = m5.length := ⟨_, rfl⟩
  obtain ⟨L5, hL5⟩ : ∃ l, l = d5.length := ⟨_, rfl⟩
  simp only [← hl5, ← hL5] at F5 R5
  clear hl5 hL5
  have F6 := fun W (h0 : RV W (.agg #[.bool nb, .slice eo el ec, .slice fo fl fc]) r k) (h1 : RV W (.agg #[.bool na, .slice uo ul uc, .slice vo vl vc]) p q) => (aAddF h0 h1)
  have R6 := fun W (h0 : RV W (.agg #[.bool nb, .slice bo bl2 bc, .slice bO bL2 bC]) r k) (h1 : RV W (.agg #[.bool na, .slice ao al2 ac, .slice aO aL2 aC]) p q) => (aAddR h0 h1)
  have HL6 : Hid _ := ln_add hY hX
  unfold AR AE at F6 R6
  unfold Ln at HL6
  generalize decide ((rq r k + rq p q).num < 0) = s6 at *
  generalize lim (rq r k + rq p q).num.natAbs = m6 at *
  generalize lim (rq r k + rq p q).den = d6 at *
  obtain ⟨l6, hl6⟩ : ∃ l, l = m6.length := ⟨_, rfl⟩
  obtain ⟨L6, hL6⟩ : ∃ l, l = d6.length := ⟨_, rfl⟩
  simp only [← hl6, ← hL6] at F6 R6
  clear hl6 hL6
  have F7 := fun W (h0 : RV W (.agg #[.bool nb, .slice eo el ec, .slice fo fl fc]) r k) => (aNegF h0)
  have R7 := fun W (h0 : RV W (.agg #[.bool nb, .slice bo bl2 bc, .slice bO bL2 bC]) r k) => (aNegR h0)
  have HL7 : Hid _ := ln_neg hY
  unfold AR AE at F7 R7
  unfold Ln at HL7
  generalize decide ((-rq r k).num < 0) = s7 at *
  generalize lim (-rq r k).num.natAbs = m7 at *
  generalize lim (-rq r k).den = d7 at *
  obtain ⟨l7, hl7⟩ : ∃ l, l = m7.length := ⟨_, rfl⟩
  obtain ⟨L7, hL7⟩ : ∃ l, l = d7.length := ⟨_, rfl⟩
  simp only [← hl7, ← hL7] at F7 R7
  clear hl7 hL7
  have F8 := fun W (h0 : RV W (.agg #[.bool nb, .slice eo el ec, .slice fo fl fc]) r k) (h1 : RV W (.agg #[.bool na, .slice uo ul uc, .slice vo vl vc]) p q) => (aMulF h0 h1)
  have R8 := fun W (h0 : RV W (.agg #[.bool nb, .slice bo bl2 bc, .slice bO bL2 bC]) r k) (h1 : RV W (.agg #[.bool na, .slice ao al2 ac, .slice aO aL2 aC]) p q) => (aMulR h0 h1)
  have HL8 : Hid _ := ln_mul hY hX
  unfold AR AE at F8 R8
  unfold Ln at HL8
  generalize decide ((rq r k * rq p q).num < 0) = s8 at *
  generalize lim (rq r k * rq p q).num.natAbs = m8 at *
  generalize lim (rq r k * rq p q).den = d8 at *
  obtain ⟨l8, hl8⟩ : ∃ l, l = m8.length := ⟨_, rfl⟩
  obtain ⟨L8, hL8⟩ : ∃ l, l = d8.length := ⟨_, rfl⟩
  simp only [← hl8, ← hL8] at F8 R8
  clear hl8 hL8
  have F9 := fun W (h0 : RV W (.agg #[.bool nb, .slice eo el ec, .slice fo fl fc]) r k) (h1 : RV W (.agg #[.bool nb, .slice eo el ec, .slice fo fl fc]) r k) => (aSubF h0 h1)
  have R9 := fun W (h0 : RV W (.agg #[.bool nb, .slice bo bl2 bc, .slice bO bL2 bC]) r k) (h1 : RV W (.agg #[.bool nb, .slice bo bl2 bc, .slice bO bL2 bC]) r k) => (aSubR h0 h1)
  have HL9 : Hid _ := ln_sub hY hY
  unfold AR AE at F9 R9
  unfold Ln at HL9
  generalize decide ((rq r k - rq r k).num < 0) = s9 at *
  generalize lim (rq r k - rq r k).num.natAbs = m9 at *
  generalize lim (rq r k - rq r k).den = d9 at *
  obtain ⟨l9, hl9⟩ : ∃ l, l = m9.length := ⟨_, rfl⟩
  obtain ⟨L9, hL9⟩ : ∃ l, l = d9.length := ⟨_, rfl⟩
  simp only [← hl9, ← hL9] at F9 R9
  clear hl9 hL9
  have F10 := fun W (h0 : RV W (.agg #[.bool na, .slice uo ul uc, .slice vo vl vc]) p q) => (aFloorF h0)
  have R10 := fun W (h0 : RV W (.agg #[.bool na, .slice ao al2 ac, .slice aO aL2 aC]) p q) => (aFloorR h0)
  have HL10 : Hid _ := ln_floor hX
  unfold WE at F10 R10
  generalize decide (fq p (und q) < 0) = s10 at *
  generalize lim (fq p (und q)).natAbs = m10 at *
  obtain ⟨l10, hl10⟩ : ∃ l, l = m10.length := ⟨_, rfl⟩
  simp only [← hl10] at F10 R10
  clear hl10
  have F11 := fun W (h0 : RV W (.agg #[.bool na, .slice uo ul uc, .slice vo vl vc]) p q) (h1 : RV W (.agg #[.bool nb, .slice eo el ec, .slice fo fl fc]) r k) => (aCmpF h0 h1)
  have R11 := fun W (h0 : RV W (.agg #[.bool na, .slice ao al2 ac, .slice aO aL2 aC]) p q) (h1 : RV W (.agg #[.bool nb, .slice bo bl2 bc, .slice bO bL2 bC]) r k) => (aCmpR h0 h1)
  generalize cmpQ (rq p q) (rq r k) = c11 at *
  have F12 := fun W (h0 : RV W (.agg #[.bool nb, .slice eo el ec, .slice fo fl fc]) r k) (h1 : RV W (.agg #[.bool na, .slice uo ul uc, .slice vo vl vc]) p q) => (aCmpF h0 h1)
  have R12 := fun W (h0 : RV W (.agg #[.bool nb, .slice bo bl2 bc, .slice bO bL2 bC]) r k) (h1 : RV W (.agg #[.bool na, .slice ao al2 ac, .slice aO aL2 aC]) p q) => (aCmpR h0 h1)
  generalize cmpQ (rq r k) (rq p q) = c12 at *
  have F13 := fun W (h0 : RV W (.agg #[.bool na, .slice uo ul uc, .slice vo vl vc]) p q) => (aSignF h0)
  have R13 := fun W (h0 : RV W (.agg #[.bool na, .slice ao al2 ac, .slice aO aL2 aC]) p q) => (aSignR h0)
  generalize sgnQ (rq p q) = c13 at *
  refine (F0 _ hA).mono ?_
  rintro e w11 ⟨f0o, f0c, g0o, g0c, rfl, hf0, hg0, pf0, b⟩
  clear F0
  rw [hB0e] at HBag
  replace HBag := HBag.push2 hf0 hg0 pf0 b (Nat.le_refl _)
  rw [← hB0e] at HBag
  clear hB0e
  have hf0n := hf0.num
  have hg0n := hg0.num
  clear hf0 hg0 pf0
  replace ra := ra.below b
  replace rb := rb.below b
  replace rc := rc.below b
  replace rd := rd.below b
  replace hX := hX.below b
  replace hY := hY.below b
  replace hA := hA.below b
  replace hB := hB.below b
  replace hB0 := Nat.le_trans hB0 b.size
  replace qa := qa.below b
  replace qb := qb.below b
  replace qu := qu.below b
  replace qv := qv.below b
  replace hb := bstep hb b
  replace hsz := Nat.lt_of_lt_of_le hsz b.size
  clear b
  have hq0 : QCell (w11.alloc (.cells #[.bool false, .slice none 0 0, .slice none 0 0] 27)) w11.heap.size false (.slice none 0 0) (.slice none 0 0) := qcell_new _ rfl
  obtain ⟨W12, hW12⟩ : ∃ W, W = w11.alloc (.cells #[.bool s0, .slice f0o l0 f0c, .slice g0o L0 g0c] 27) := ⟨_, rfl⟩
  have qn : QCell W12 (w11.heap.size) s0 (.slice f0o l0 f0c) (.slice g0o L0 g0c) := by rw [hW12]; exact qcell_new _ rfl
  have b : Below w11.heap.size w11 W12 := by rw [hW12]; exact belowA _ _
  obtain ⟨z0, z1, z2⟩ := hq0.cells
  have t0 := hq0.thaw 0
  have t1 := hq0.thaw 1
  have t2 := hq0.thaw 2
  clear hq0
  replace ra := ra.below b
  replace rb := rb.below b
  replace rc := rc.below b
  replace rd := rd.below b
  replace hX := hX.below b
  replace hY := hY.below b
  replace hA := hA.below b
  replace hB := hB.below b
  replace hB0 := Nat.le_trans hB0 b.size
  replace hf0n := hf0n.below (Nat.le_refl _) b
  replace hg0n := hg0n.below (Nat.le_refl _) b
  replace HBag := HBag.below b
  replace qa := qa.below b
  replace qb := qb.below b
  replace qu := qu.below b
  replace qv := qv.below b
  replace hb := bstep hb b
  replace hsz := Nat.lt_of_lt_of_le hsz b.size
  clear b
  have rqa0 : (w11.alloc (.cells #[.bool s0, .slice f0o l0 f0c, .slice g0o L0 g0c] 27)).cell? ⟨g, 0, none⟩ = some (.bool na) := by rw [← hW12]; exact qa.cells.1
  have rqa1 : (w11.alloc (.cells #[.bool s0, .slice f0o l0 f0c, .slice g0o L0 g0c] 27)).cell? ⟨g, 1, none⟩ = some (.slice ao al2 ac) := by rw [← hW12]; exact qa.cells.2.1
  have rqa2 : (w11.alloc (.cells #[.bool s0, .slice f0o l0 f0c, .slice g0o L0 g0c] 27)).cell? ⟨g, 2, none⟩ = some (.slice aO aL2 aC) := by rw [← hW12]; exact qa.cells.2.2
  have rqb0 : (w11.alloc (.cells #[.bool s0, .slice f0o l0 f0c, .slice g0o L0 g0c] 27)).cell? ⟨g + 1, 0, none⟩ = some (.bool nb) := by rw [← hW12]; exact qb.cells.1
  have rqb1 : (w11.alloc (.cells #[.bool s0, .slice f0o l0 f0c, .slice g0o L0 g0c] 27)).cell? ⟨g + 1, 1, none⟩ = some (.slice bo bl2 bc) := by rw [← hW12]; exact qb.cells.2.1
  have rqb2 : (w11.alloc (.cells #[.bool s0, .slice f0o l0 f0c, .slice g0o L0 g0c] 27)).cell? ⟨g + 1, 2, none⟩ = some (.slice bO bL2 bC) := by rw [← hW12]; exact qb.cells.2.2
  have rqu0 : (w11.alloc (.cells #[.bool s0, .slice f0o l0 f0c, .slice g0o L0 g0c] 27)).cell? ⟨v8, 0, none⟩ = some (.bool na) := by rw [← hW12]; exact qu.cells.1
  have rqu1 : (w11.alloc (.cells #[.bool s0, .slice f0o l0 f0c, .slice g0o L0 g0c] 27)).cell? ⟨v8, 1, none⟩ = some (.slice uo ul uc) := by rw [← hW12]; exact qu.cells.2.1
  have rqu2 : (w11.alloc (.cells #[.bool s0, .slice f0o l0 f0c, .slice g0o L0 g0c] 27)).cell? ⟨v8, 2, none⟩ = some (.slice vo vl vc) := by rw [← hW12]; exact qu.cells.2.2
  have rqv0 : (w11.alloc (.cells #[.bool s0, .slice f0o l0 f0c, .slice g0o L0 g0c] 27)).cell? ⟨v10, 0, none⟩ = some (.bool nb) := by rw [← hW12]; exact qv.cells.1
  have rqv1 : (w11.alloc (.cells #[.bool s0, .slice f0o l0 f0c, .slice g0o L0 g0c] 27)).cell? ⟨v10, 1, none⟩ = some (.slice eo el ec) := by rw [← hW12]; exact qv.cells.2.1
  have rqv2 : (w11.alloc (.cells #[.bool s0, .slice f0o l0 f0c, .slice g0o L0 g0c] 27)).cell? ⟨v10, 2, none⟩ = some (.slice fo fl fc) := by rw [← hW12]; exact qv.cells.2.2
  have rqn0 : (w11.alloc (.cells #[.bool s0, .slice f0o l0 f0c, .slice g0o L0 g0c] 27)).cell? ⟨w11.heap.size, 0, none⟩ = some (.bool s0) := by rw [← hW12]; exact qn.cells.1
  have rqn1 : (w11.alloc (.cells #[.bool s0, .slice f0o l0 f0c, .slice g0o L0 g0c] 27)).cell? ⟨w11.heap.size, 1, none⟩ = some (.slice f0o l0 f0c) := by rw [← hW12]; exact qn.cells.2.1
  have rqn2 : (w11.alloc (.cells #[.bool s0, .slice f0o l0 f0c, .slice g0o L0 g0c] 27)).cell? ⟨w11.heap.size, 2, none⟩ = some (.slice g0o L0 g0c) := by rw [← hW12]; exact qn.cells.2.2
  obtain ⟨v12, hv12⟩ : ∃ v, v = w11.heap.size := ⟨_, rfl⟩
  rw [← hv12] at qn
  have HW12 : Hid (W12 = w11.alloc (.cells #[.bool s0, .slice f0o l0 f0c, .slice g0o L0 g0c] 27)) := hW12
  have Hv12 : Hid (v12 = w11.heap.size) := hv12
  clear hW12 hv12
  go_wp2_with fail
  rw [← HW12.out, ← Hv12.out]
  clear HW12 Hv12 z0 t0 z1 t1 z2 t2 rqa0 rqa1 rqa2 rqb0 rqb1 rqb2 rqu0 rqu1 rqu2 rqv0 rqv1 rqv2 rqn0 rqn1 rqn2 
  refine (R0 _ hX).mono ?_
  rintro e w13 ⟨x0o, x0c, y0o, y0c, rfl, hx0, hy0, _, b⟩
  clear R0
  replace hx0 := hx0.num
  replace hy0 := hy0.num
  replace ra := ra.below b
  replace rb := rb.below b
  replace rc := rc.below b
  replace rd := rd.below b
  replace hX := hX.below b
  replace hY := hY.below b
  replace hA := hA.below b
  replace hB := hB.below b
  replace hB0 := Nat.le_trans hB0 b.size
  replace hf0n := hf0n.below (Nat.le_refl _) b
  replace hg0n := hg0n.below (Nat.le_refl _) b
  replace HBag := HBag.below b
  replace qa := qa.below b
  replace qb := qb.below b
  replace qu := qu.below b
  replace qv := qv.below b
  replace qn := qn.below b
  replace hb := bstep hb b
  replace hsz := Nat.lt_of_lt_of_le hsz b.size
  clear b
  have hq0 : QCell (w13.alloc (.cells #[.bool false, .slice none 0 0, .slice none 0 0] 27)) w13.heap.size false (.slice none 0 0) (.slice none 0 0) := qcell_new _ rfl
  obtain ⟨W14, hW14⟩ : ∃ W, W = w13.alloc (.cells #[.bool s0, .slice x0o l0 x0c, .slice y0o L0 y0c] 27) := ⟨_, rfl⟩
  have qm : QCell W14 (w13.heap.size) s0 (.slice x0o l0 x0c) (.slice y0o L0 y0c) := by rw [hW14]; exact qcell_new _ rfl
  have b : Below w13.heap.size w13 W14 := by rw [hW14]; exact belowA _ _
  obtain ⟨z0, z1, z2⟩ := hq0.cells
  have t0 := hq0.thaw 0
  have t1 := hq0.thaw 1
  have t2 := hq0.thaw 2
  clear hq0
  replace ra := ra.below b
  replace rb := rb.below b
  replace rc := rc.below b
  replace rd := rd.below b
  replace hX := hX.below b
  replace hY := hY.below b
  replace hA := hA.below b
  replace hB := hB.below b
  replace hB0 := Nat.le_trans hB0 b.size
  replace hf0n := hf0n.below (Nat.le_refl _) b
  replace hg0n := hg0n.below (Nat.le_refl _) b
  replace HBag := HBag.below b
  replace hx0 := hx0.below (Nat.le_refl _) b
  replace hy0 := hy0.below (Nat.le_refl _) b
  replace qa := qa.below b
  replace qb := qb.below b
  replace qu := qu.below b
  replace qv := qv.below b
  replace qn := qn.below b
  replace hb := bstep hb b
  replace hsz := Nat.lt_of_lt_of_le hsz b.size
  clear b
  have rqa0 : (w13.alloc (.cells #[.bool s0, .slice x0o l0 x0c, .slice y0o L0 y0c] 27)).cell? ⟨g, 0, none⟩ = some (.bool na) := by rw [← hW14]; exact qa.cells.1
  have rqa1 : (w13.alloc (.cells #[.bool s0, .slice x0o l0 x0c, .slice y0o L0 y0c] 27)).cell? ⟨g, 1, none⟩ = some (.slice ao al2 ac) := by rw [← hW14]; exact qa.cells.2.1
  have rqa2 : (w13.alloc (.cells #[.bool s0, .slice x0o l0 x0c, .slice y0o L0 y0c] 27)).cell? ⟨g, 2, none⟩ = some (.slice aO aL2 aC) := by rw [← hW14]; exact qa.cells.2.2
  have rqb0 : (w13.alloc (.cells #[.bool s0, .slice x0o l0 x0c, .slice y0o L0 y0c] 27)).cell? ⟨g + 1, 0, none⟩ = some (.bool nb) := by rw [← hW14]; exact qb.cells.1
  have rqb1 : (w13.alloc (.cells #[.bool s0, .slice x0o l0 x0c, .slice y0o L0 y0c] 27)).cell? ⟨g + 1, 1, none⟩ = some (.slice bo bl2 bc) := by rw [← hW14]; exact qb.cells.2.1
  have rqb2 : (w13.alloc (.cells #[.bool s0, .slice x0o l0 x0c, .slice y0o L0 y0c] 27)).cell? ⟨g + 1, 2, none⟩ = some (.slice bO bL2 bC) := by rw [← hW14]; exact qb.cells.2.2
  have rqu0 : (w13.alloc (.cells #[.bool s0, .slice x0o l0 x0c, .slice y0o L0 y0c] 27)).cell? ⟨v8, 0, none⟩ = some (.bool na) := by rw [← hW14]; exact qu.cells.1
  have rqu1 : (w13.alloc (.cells #[.bool s0, .slice x0o l0 x0c, .slice y0o L0 y0c] 27)).cell? ⟨v8, 1, none⟩ = some (.slice uo ul uc) := by rw [← hW14]; exact qu.cells.2.1
  have rqu2 : (w13.alloc (.cells #[.bool s0, .slice x0o l0 x0c, .slice y0o L0 y0c] 27)).cell? ⟨v8, 2, none⟩ = some (.slice vo vl vc) := by rw [← hW14]; exact qu.cells.2.2
  have rqv0 : (w13.alloc (.cells #[.bool s0, .slice x0o l0 x0c, .slice y0o L0 y0c] 27)).cell? ⟨v10, 0, none⟩ = some (.bool nb) := by rw [← hW14]; exact qv.cells.1
  have rqv1 : (w13.alloc (.cells #[.bool s0, .slice x0o l0 x0c, .slice y0o L0 y0c] 27)).cell? ⟨v10, 1, none⟩ = some (.slice eo el ec) := by rw [← hW14]; exact qv.cells.2.1
  have rqv2 : (w13.alloc (.cells #[.bool s0, .slice x0o l0 x0c, .slice y0o L0 y0c] 27)).cell? ⟨v10, 2, none⟩ = some (.slice fo fl fc) := by rw [← hW14]; exact qv.cells.2.2
  have rqn0 : (w13.alloc (.cells #[.bool s0, .slice x0o l0 x0c, .slice y0o L0 y0c] 27)).cell? ⟨v12, 0, none⟩ = some (.bool s0) := by rw [← hW14]; exact qn.cells.1
  have rqn1 : (w13.alloc (.cells #[.bool s0, .slice x0o l0 x0c, .slice y0o L0 y0c] 27)).cell? ⟨v12, 1, none⟩ = some (.slice f0o l0 f0c) := by rw [← hW14]; exact qn.cells.2.1
  have rqn2 : (w13.alloc (.cells #[.bool s0, .slice x0o l0 x0c, .slice y0o L0 y0c] 27)).cell? ⟨v12, 2, none⟩ = some (.slice g0o L0 g0c) := by rw [← hW14]; exact qn.cells.2.2
  have rqm0 : (w13.alloc (.cells #[.bool s0, .slice x0o l0 x0c, .slice y0o L0 y0c] 27)).cell? ⟨w13.heap.size, 0, none⟩ = some (.bool s0) := by rw [← hW14]; exact qm.cells.1
  have rqm1 : (w13.alloc (.cells #[.bool s0, .slice x0o l0 x0c, .slice y0o L0 y0c] 27)).cell? ⟨w13.heap.size, 1, none⟩ = some (.slice x0o l0 x0c) := by rw [← hW14]; exact qm.cells.2.1
  have rqm2 : (w13.alloc (.cells #[.bool s0, .slice x0o l0 x0c, .slice y0o L0 y0c] 27)).cell? ⟨w13.heap.size, 2, none⟩ = some (.slice y0o L0 y0c) := by rw [← hW14]; exact qm.cells.2.2
  obtain ⟨v14, hv14⟩ : ∃ v, v = w13.heap.size := ⟨_, rfl⟩
  rw [← hv14] at qm
  have HW14 : Hid (W14 = w13.alloc (.cells #[.bool s0, .slice x0o l0 x0c, .slice y0o L0 y0c] 27)) := hW14
  have Hv14 : Hid (v14 = w13.heap.size) := hv14
  clear hW14 hv14
  go_wp2_with fail
  rw [← HW14.out, ← Hv14.out]
  clear HW14 Hv14 z0 t0 z1 t1 z2 t2 rqa0 rqa1 rqa2 rqb0 rqb1 rqb2 rqu0 rqu1 rqu2 rqv0 rqv1 rqv2 rqn0 rqn1 rqn2 rqm0 rqm1 rqm2 
  refine (F5 _ hA hB).mono ?_
  rintro e w15 ⟨f5o, f5c, g5o, g5c, rfl, hf5, hg5, pf5, b⟩
  clear F5
  replace HBag := HBag.push2 hf5 hg5 pf5 b hB0
  have hf5n := hf5.num
  have hg5n := hg5.num
  clear hf5 hg5 pf5
  replace ra := ra.below b
  replace rb := rb.below b
  replace rc := rc.below b
  replace rd := rd.below b
  replace hX := hX.below b
  replace hY := hY.below b
  replace hA := hA.below b
  replace hB := hB.below b
  replace hB0 := Nat.le_trans hB0 b.size
  replace hf0n := hf0n.below (Nat.le_refl _) b
  replace hg0n := hg0n.below (Nat.le_refl _) b
  replace hx0 := hx0.below (Nat.le_refl _) b
  replace hy0 := hy0.below (Nat.le_refl _) b
  replace qa := qa.below b
  replace qb := qb.below b
  replace qu := qu.below b
  replace qv := qv.below b
  replace qn := qn.below b
  replace qm := qm.below b
  replace hb := bstep hb b
  replace hsz := Nat.lt_of_lt_of_le hsz b.size
  clear b
  have hq0 : QCell (w15.alloc (.cells #[.bool false, .slice none 0 0, .slice none 0 0] 27)) w15.heap.size false (.slice none 0 0) (.slice none 0 0) := qcell_new _ rfl
  obtain ⟨W16, hW16⟩ : ∃ W, W = w15.alloc (.cells #[.bool s5, .slice f5o l5 f5c, .slice g5o L5 g5c] 27) := ⟨_, rfl⟩
  have qd : QCell W16 (w15.heap.size) s5 (.slice f5o l5 f5c) (.slice g5o L5 g5c) := by rw [hW16]; exact qcell_new _ rfl
  have b : Below w15.heap.size w15 W16 := by rw [hW16]; exact belowA _ _
  obtain ⟨z0, z1, z2⟩ := hq0.cells
  have t0 := hq0.thaw 0
  have t1 := hq0.thaw 1
  have t2 := hq0.thaw 2
  clear hq0
  replace ra := ra.below b
  replace rb := rb.below b
  replace rc := rc.below b
  replace rd := rd.below b
  replace hX := hX.below b
  replace hY := hY.below b
  replace hA := hA.below b
  replace hB := hB.below b
  replace hB0 := Nat.le_trans hB0 b.size
  replace hf0n := hf0n.below (Nat.le_refl _) b
  replace hg0n := hg0n.below (Nat.le_refl _) b
  replace hx0 := hx0.below (Nat.le_refl _) b
  replace hy0 := hy0.below (Nat.le_refl _) b
  replace hf5n := hf5n.below (Nat.le_refl _) b
  replace hg5n := hg5n.below (Nat.le_refl _) b
  replace HBag := HBag.below b
  replace qa := qa.below b
  replace qb := qb.below b
  replace qu := qu.below b
  replace qv := qv.below b
  replace qn := qn.below b
  replace qm := qm.below b
  replace hb := bstep hb b
  replace hsz := Nat.lt_of_lt_of_le hsz b.size
  clear b
  have rqa0 : (w15.alloc (.cells #[.bool s5, .slice f5o l5 f5c, .slice g5o L5 g5c] 27)).cell? ⟨g, 0, none⟩ = some (.bool na) := by rw [← hW16]; exact qa.cells.1
  have rqa1 : (w15.alloc (.cells #[.bool s5, .slice f5o l5 f5c, .slice g5o L5 g5c] 27)).cell? ⟨g, 1, none⟩ = some (.slice ao al2 ac) := by rw [← hW16]; exact qa.cells.2.1
  have rqa2 : (w15.alloc (.cells #[.bool s5, .slice f5o l5 f5c, .slice g5o L5 g5c] 27)).cell? ⟨g, 2, none⟩ = some (.slice aO aL2 aC) := by rw [← hW16]; exact qa.cells.2.2
  have rqb0 : (w15.alloc (.cells #[.bool s5, .slice f5o l5 f5c, .slice g5o L5 g5c] 27)).cell? ⟨g + 1, 0, none⟩ = some (.bool nb) := by rw [← hW16]; exact qb.cells.1
  have rqb1 : (w15.alloc (.cells #[.bool s5, .slice f5o l5 f5c, .slice g5o L5 g5c] 27)).cell? ⟨g + 1, 1, none⟩ = some (.slice bo bl2 bc) := by rw [← hW16]; exact qb.cells.2.1
  have rqb2 : (w15.alloc (.cells #[.bool s5, .slice f5o l5 f5c, .slice g5o L5 g5c] 27)).cell? ⟨g + 1, 2, none⟩ = some (.slice bO bL2 bC) := by rw [← hW16]; exact qb.cells.2.2
  have rqu0 : (w15.alloc (.cells #[.bool s5, .slice f5o l5 f5c, .slice g5o L5 g5c] 27)).cell? ⟨v8, 0, none⟩ = some (.bool na) := by rw [← hW16]; exact qu.cells.1
  have rqu1 : (w15.alloc (.cells #[.bool s5, .slice f5o l5 f5c, .slice g5o L5 g5c] 27)).cell? ⟨v8, 1, none⟩ = some (.slice uo ul uc) := by rw [← hW16]; exact qu.cells.2.1
  have rqu2 : (w15.alloc (.cells #[.bool s5, .slice f5o l5 f5c, .slice g5o L5 g5c] 27)).cell? ⟨v8, 2, none⟩ = some (.slice vo vl vc) := by rw [← hW16]; exact qu.cells.2.2
  have rqv0 : (w15.alloc (.cells #[.bool s5, .slice f5o l5 f5c, .slice g5o L5 g5c] 27)).cell? ⟨v10, 0, none⟩ = some (.bool nb) := by rw [← hW16]; exact qv.cells.1
  have rqv1 : (w15.alloc (.cells #[.bool s5, .slice f5o l5 f5c, .slice g5o L5 g5c] 27)).cell? ⟨v10, 1, none⟩ = some (.slice eo el ec) := by rw [← hW16]; exact qv.cells.2.1
  have rqv2 : (w15.alloc (.cells #[.bool s5, .slice f5o l5 f5c, .slice g5o L5 g5c] 27)).cell? ⟨v10, 2, none⟩ = some (.slice fo fl fc) := by rw [← hW16]; exact qv.cells.2.2
  have rqn0 : (w15.alloc (.cells #[.bool s5, .slice f5o l5 f5c, .slice g5o L5 g5c] 27)).cell? ⟨v12, 0, none⟩ = some (.bool s0) := by rw [← hW16]; exact qn.cells.1
  have rqn1 : (w15.alloc (.cells #[.bool s5, .slice f5o l5 f5c, .slice g5o L5 g5c] 27)).cell? ⟨v12, 1, none⟩ = some (.slice f0o l0 f0c) := by rw [← hW16]; exact qn.cells.2.1
  have rqn2 : (w15.alloc (.cells #[.bool s5, .slice f5o l5 f5c, .slice g5o L5 g5c] 27)).cell? ⟨v12, 2, none⟩ = some (.slice g0o L0 g0c) := by rw [← hW16]; exact qn.cells.2.2
  have rqm0 : (w15.alloc (.cells #[.bool s5, .slice f5o l5 f5c, .slice g5o L5 g5c] 27)).cell? ⟨v14, 0, none⟩ = some (.bool s0) := by rw [← hW16]; exact qm.cells.1
  have rqm1 : (w15.alloc (.cells #[.bool s5, .slice f5o l5 f5c, .slice g5o L5 g5c] 27)).cell? ⟨v14, 1, none⟩ = some (.slice x0o l0 x0c) := by rw [← hW16]; exact qm.cells.2.1
  have rqm2 : (w15.alloc (.cells #[.bool s5, .slice f5o l5 f5c, .slice g5o L5 g5c] 27)).cell? ⟨v14, 2, none⟩ = some (.slice y0o L0 y0c) := by rw [← hW16]; exact qm.cells.2.2
  have rqd0 : (w15.alloc (.cells #[.bool s5, .slice f5o l5 f5c, .slice g5o L5 g5c] 27)).cell? ⟨w15.heap.size, 0, none⟩ = some (.bool s5) := by rw [← hW16]; exact qd.cells.1
  have rqd1 : (w15.alloc (.cells #[.bool s5, .slice f5o l5 f5c, .slice g5o L5 g5c] 27)).cell? ⟨w15.heap.size, 1, none⟩ = some (.slice f5o l5 f5c) := by rw [← hW16]; exact qd.cells.2.1
  have rqd2 : (w15.alloc (.cells #[.bool s5, .slice f5o l5 f5c, .slice g5o L5 g5c] 27)).cell? ⟨w15.heap.size, 2, none⟩ = some (.slice g5o L5 g5c) := by rw [← hW16]; exact qd.cells.2.2
  obtain ⟨v16, hv16⟩ : ∃ v, v = w15.heap.size := ⟨_, rfl⟩
  rw [← hv16] at qd
  have HW16 : Hid (W16 = w15.alloc (.cells #[.bool s5, .slice f5o l5 f5c, .slice g5o L5 g5c] 27)) := hW16
  have Hv16 : Hid (v16 = w15.heap.size) := hv16
  clear hW16 hv16
  go_wp2_with fail
  rw [← HW16.out, ← Hv16.out]
  clear HW16 Hv16 z0 t0 z1 t1 z2 t2 rqa0 rqa1 rqa2 rqb0 rqb1 rqb2 rqu0 rqu1 rqu2 rqv0 rqv1 rqv2 rqn0 rqn1 rqn2 rqm0 rqm1 rqm2 rqd0 rqd1 rqd2 
  refine (R5 _ hX hY).mono ?_
  rintro e w17 ⟨x5o, x5c, y5o, y5c, rfl, hx5, hy5, _, b⟩
  clear R5
  replace hx5 := hx5.num
  replace hy5 := hy5.num
  replace ra := ra.below b
  replace rb := rb.below b
  replace rc := rc.below b
  replace rd := rd.below b
  replace hX := hX.below b
  replace hY := hY.below b
  replace hA := hA.below b
  replace hB := hB.below b
  replace hB0 := Nat.le_trans hB0 b.size
  replace hf0n := hf0n.below (Nat.le_refl _) b
  replace hg0n := hg0n.below (Nat.le_refl _) b
  replace hx0 := hx0.below (Nat.le_refl _) b
  replace hy0 := hy0.below (Nat.le_refl _) b
  replace hf5n := hf5n.below (Nat.le_refl _) b
  replace hg5n := hg5n.below (Nat.le_refl _) b
  replace HBag := HBag.below b
  replace qa := qa.below b
  replace qb := qb.below b
  replace qu := qu.below b
  replace qv := qv.below b
  replace qn := qn.below b
  replace qm := qm.below b
  replace qd := qd.below b
  replace hb := bstep hb b
  replace hsz := Nat.lt_of_lt_of_le hsz b.size
  clear b
  have hq0 : QCell (w17.alloc (.cells #[.bool false, .slice none 0 0, .slice none 0 0] 27)) w17.heap.size false (.slice none 0 0) (.slice none 0 0) := qcell_new _ rfl
  obtain ⟨W18, hW18⟩ : ∃ W, W = w17.alloc (.cells #[.bool s5, .slice x5o l5 x5c, .slice y5o L5 y5c] 27) := ⟨_, rfl⟩
  have qo : QCell W18 (w17.heap.size) s5 (.slice x5o l5 x5c) (.slice y5o L5 y5c) := by rw [hW18]; exact qcell_new _ rfl
  have b : Below w17.heap.size w17 W18 := by rw [hW18]; exact belowA _ _
  obtain ⟨z0, z1, z2⟩ := hq0.cells
  have t0 := hq0.thaw 0
  have t1 := hq0.thaw 1
  have t2 := hq0.thaw 2
  clear hq0
  replace ra := ra.below b
  replace rb := rb.below b
  replace rc := rc.below b
  replace rd := rd.below b
  replace hX := hX.below b
  replace hY := hY.below b
  replace hA := hA.below b
  replace hB := hB.below b
  replace hB0 := Nat.le_trans hB0 b.size
  replace hf0n := hf0n.below (Nat.le_refl _) b
  replace hg0n := hg0n.below (Nat.le_refl _) b
  replace hx0 := hx0.below (Nat.le_refl _) b
  replace hy0 := hy0.below (Nat.le_refl _) b
  replace hf5n := hf5n.below (Nat.le_refl _) b
  replace hg5n := hg5n.below (Nat.le_refl _) b
  replace HBag := HBag.below b
  replace hx5 := hx5.below (Nat.le_refl _) b
  replace hy5 := hy5.below (Nat.le_refl _) b
  replace qa := qa.below b
  replace qb := qb.below b
  replace qu := qu.below b
  replace qv := qv.below b
  replace qn := qn.below b
  replace qm := qm.below b
  replace qd := qd.below b
  replace hb := bstep hb b
  replace hsz := Nat.lt_of_lt_of_le hsz b.size
  clear b
  have rqa0 : (w17.alloc (.cells #[.bool s5, .slice x5o l5 x5c, .slice y5o L5 y5c] 27)).cell? ⟨g, 0, none⟩ = some (.bool na) := by rw [← hW18]; exact qa.cells.1
  have rqa1 : (w17.alloc (.cells #[.bool s5, .slice x5o l5 x5c, .slice y5o L5 y5c] 27)).cell? ⟨g, 1, none⟩ = some (.slice ao al2 ac) := by rw [← hW18]; exact qa.cells.2.1
  have rqa2 : (w17.alloc (.cells #[.bool s5, .slice x5o l5 x5c, .slice y5o L5 y5c] 27)).cell? ⟨g, 2, none⟩ = some (.slice aO aL2 aC) := by rw [← hW18]; exact qa.cells.2.2
  have rqb0 : (w17.alloc (.cells #[.bool s5, .slice x5o l5 x5c, .slice y5o L5 y5c] 27)).cell? ⟨g + 1, 0, none⟩ = some (.bool nb) := by rw [← hW18]; exact qb.cells.1
  have rqb1 : (w17.alloc (.cells #[.bool s5, .slice x5o l5 x5c, .slice y5o L5 y5c] 27)).cell? ⟨g + 1, 1, none⟩ = some (.slice bo bl2 bc) := by rw [← hW18]; exact qb.cells.2.1
  have rqb2 : (w17.alloc (.cells #[.bool s5, .slice x5o l5 x5c, .slice y5o L5 y5c] 27)).cell? ⟨g + 1, 2, none⟩ = some (.slice bO bL2 bC) := by rw [← hW18]; exact qb.cells.2.2
  have rqu0 : (w17.alloc (.cells #[.bool s5, .slice x5o l5 x5c, .slice y5o L5 y5c] 27)).cell? ⟨v8, 0, none⟩ = some (.bool na) := by rw [← hW18]; exact qu.cells.1
  have rqu1 : (w17.alloc (.cells #[.bool s5, .slice x5o l5 x5c, .slice y5o L5 y5c] 27)).cell? ⟨v8, 1, none⟩ = some (.slice uo ul uc) := by rw [← hW18]; exact qu.cells.2.1
  have rqu2 : (w17.alloc (.cells #[.bool s5, .slice x5o l5 x5c, .slice y5o L5 y5c] 27)).cell? ⟨v8, 2, none⟩ = some (.slice vo vl vc) := by rw [← hW18]; exact qu.cells.2.2
  have rqv0 : (w17.alloc (.cells #[.bool s5, .slice x5o l5 x5c, .slice y5o L5 y5c] 27)).cell? ⟨v10, 0, none⟩ = some (.bool nb) := by rw [← hW18]; exact qv.cells.1
  have rqv1 : (w17.alloc (.cells #[.bool s5, .slice x5o l5 x5c, .slice y5o L5 y5c] 27)).cell? ⟨v10, 1, none⟩ = some (.slice eo el ec) := by rw [← hW18]; exact qv.cells.2.1
  have rqv2 : (w17.alloc (.cells #[.bool s5, .slice x5o l5 x5c, .slice y5o L5 y5c] 27)).cell? ⟨v10, 2, none⟩ = some (.slice fo fl fc) := by rw [← hW18]; exact qv.cells.2.2
  have rqn0 : (w17.alloc (.cells #[.bool s5, .slice x5o l5 x5c, .slice y5o L5 y5c] 27)).cell? ⟨v12, 0, none⟩ = some (.bool s0) := by rw [← hW18]; exact qn.cells.1
  have rqn1 : (w17.alloc (.cells #[.bool s5, .slice x5o l5 x5c, .slice y5o L5 y5c] 27)).cell? ⟨v12, 1, none⟩ = some (.slice f0o l0 f0c) := by rw [← hW18]; exact qn.cells.2.1
  have rqn2 : (w17.alloc (.cells #[.bool s5, .slice x5o l5 x5c, .slice y5o L5 y5c] 27)).cell? ⟨v12, 2, none⟩ = some (.slice g0o L0 g0c) := by rw [← hW18]; exact qn.cells.2.2
  have rqm0 : (w17.alloc (.cells #[.bool s5, .slice x5o l5 x5c, .slice y5o L5 y5c] 27)).cell? ⟨v14, 0, none⟩ = some (.bool s0) := by rw [← hW18]; exact qm.cells.1
  have rqm1 : (w17.alloc (.cells #[.bool s5, .slice x5o l5 x5c, .slice y5o L5 y5c] 27)).cell? ⟨v14, 1, none⟩ = some (.slice x0o l0 x0c) := by rw [← hW18]; exact qm.cells.2.1
  have rqm2 : (w17.alloc (.cells #[.bool s5, .slice x5o l5 x5c, .slice y5o L5 y5c] 27)).cell? ⟨v14, 2, none⟩ = some (.slice y0o L0 y0c) := by rw [← hW18]; exact qm.cells.2.2
  have rqd0 : (w17.alloc (.cells #[.bool s5, .slice x5o l5 x5c, .slice y5o L5 y5c] 27)).cell? ⟨v16, 0, none⟩ = some (.bool s5) := by rw [← hW18]; exact qd.cells.1
  have rqd1 : (w17.alloc (.cells #[.bool s5, .slice x5o l5 x5c, .slice y5o L5 y5c] 27)).cell? ⟨v16, 1, none⟩ = some (.slice f5o l5 f5c) := by rw [← hW18]; exact qd.cells.2.1
  have rqd2 : (w17.alloc (.cells #[.bool s5, .slice x5o l5 x5c, .slice y5o L5 y5c] 27)).cell? ⟨v16, 2, none⟩ = some (.slice g5o L5 g5c) := by rw [← hW18]; exact qd.cells.2.2
  have rqo0 : (w17.alloc (.cells #[.bool s5, .slice x5o l5 x5c, .slice y5o L5 y5c] 27)).cell? ⟨w17.heap.size, 0, none⟩ = some (.bool s5) := by rw [← hW18]; exact qo.cells.1
  have rqo1 : (w17.alloc (.cells #[.bool s5, .slice x5o l5 x5c, .slice y5o L5 y5c] 27)).cell? ⟨w17.heap.size, 1, none⟩ = some (.slice x5o l5 x5c) := by rw [← hW18]; exact qo.cells.2.1
  have rqo2 : (w17.alloc (.cells #[.bool s5, .slice x5o l5 x5c, .slice y5o L5 y5c] 27)).cell? ⟨w17.heap.size, 2, none⟩ = some (.slice y5o L5 y5c) := by rw [← hW18]; exact qo.cells.2.2
  obtain ⟨v18, hv18⟩ : ∃ v, v = w17.heap.size := ⟨_, rfl⟩
  rw [← hv18] at qo
  have HW18 : Hid (W18 = w17.alloc (.cells #[.bool s5, .slice x5o l5 x5c, .slice y5o L5 y5c] 27)) := hW18
  have Hv18 : Hid (v18 = w17.heap.size) := hv18
  clear hW18 hv18
  go_wp2_with fail
  rw [← HW18.out, ← Hv18.out]
  clear HW18 Hv18 z0 t0 z1 t1 z2 t2 rqa0 rqa1 rqa2 rqb0 rqb1 rqb2 rqu0 rqu1 rqu2 rqv0 rqv1 rqv2 rqn0 rqn1 rqn2 rqm0 rqm1 rqm2 rqd0 rqd1 rqd2 rqo0 rqo1 rqo2 
  have KEEP : ∀ u, Below W18.heap.size W18 u → AllL u [(0, fun w' => w'.cell? ⟨v12, 0, none⟩ = some (.bool s0) ∧ w'.cell? ⟨v12, 1, none⟩ = some (.slice f0o l0 f0c) ∧ w'.cell? ⟨v12, 2, none⟩ = some (.slice g0o L0 g0c)), (1, fun w' => w'.cell? ⟨v8, 0, none⟩ = some (.bool na) ∧ w'.cell? ⟨v8, 1, none⟩ = some (.slice uo ul uc) ∧ w'.cell? ⟨v8, 2, none⟩ = some (.slice vo vl vc)), (3, fun w' => w'.cell? ⟨v8, 0, none⟩ = some (.bool na) ∧ w'.cell? ⟨v8, 1, none⟩ = some (.slice uo ul uc) ∧ w'.cell? ⟨v8, 2, none⟩ = some (.slice vo vl vc)), (4, fun w' => w'.cell? ⟨v10, 0, none⟩ = some (.bool nb) ∧ w'.cell? ⟨v10, 1, none⟩ = some (.slice eo el ec) ∧ w'.cell? ⟨v10, 2, none⟩ = some (.slice fo fl fc)), (6, fun w' => w'.cell? ⟨v8, 0, none⟩ = some (.bool na) ∧ w'.cell? ⟨v8, 1, none⟩ = some (.slice uo ul uc) ∧ w'.cell? ⟨v8, 2, none⟩ = some (.slice vo vl vc)), (7, fun w' => w'.cell? ⟨v10, 0, none⟩ = some (.bool nb) ∧ w'.cell? ⟨v10, 1, none⟩ = some (.slice eo el ec) ∧ w'.cell? ⟨v10, 2, none⟩ = some (.slice fo fl fc)), (9, fun w' => w'.cell? ⟨v8, 0, none⟩ = some (.bool na) ∧ w'.cell? ⟨v8, 1, none⟩ = some (.slice uo ul uc) ∧ w'.cell? ⟨v8, 2, none⟩ = some (.slice vo vl vc)), (10, fun w' => w'.cell? ⟨v10, 0, none⟩ = some (.bool nb) ∧ w'.cell? ⟨v10, 1, none⟩ = some (.slice eo el ec) ∧ w'.cell? ⟨v10, 2, none⟩ = some (.slice fo fl fc)), (12, fun w' => w'.cell? ⟨v16, 0, none⟩ = some (.bool s5) ∧ w'.cell? ⟨v16, 1, none⟩ = some (.slice f5o l5 f5c) ∧ w'.cell? ⟨v16, 2, none⟩ = some (.slice g5o L5 g5c)), (13, fun w' => w'.cell? ⟨v10, 0, none⟩ = some (.bool nb) ∧ w'.cell? ⟨v10, 1, none⟩ = some (.slice eo el ec) ∧ w'.cell? ⟨v10, 2, none⟩ = some (.slice fo fl fc)), (14, fun w' => w'.cell? ⟨v8, 0, none⟩ = some (.bool na) ∧ w'.cell? ⟨v8, 1, none⟩ = some (.slice uo ul uc) ∧ w'.cell? ⟨v8, 2, none⟩ = some (.slice vo vl vc)), (16, fun w' => w'.cell? ⟨v10, 0, none⟩ = some (.bool nb) ∧ w'.cell? ⟨v10, 1, none⟩ = some (.slice eo el ec) ∧ w'.cell? ⟨v10, 2, none⟩ = some (.slice fo fl fc)), (18, fun w' => w'.cell? ⟨v10, 0, none⟩ = some (.bool nb) ∧ w'.cell? ⟨v10, 1, none⟩ = some (.slice eo el ec) ∧ w'.cell? ⟨v10, 2, none⟩ = some (.slice fo fl fc)), (19, fun w' => w'.cell? ⟨v8, 0, none⟩ = some (.bool na) ∧ w'.cell? ⟨v8, 1, none⟩ = some (.slice uo ul uc) ∧ w'.cell? ⟨v8, 2, none⟩ = some (.slice vo vl vc)), (21, fun w' => w'.cell? ⟨v10, 0, none⟩ = some (.bool nb) ∧ w'.cell? ⟨v10, 1, none⟩ = some (.slice eo el ec) ∧ w'.cell? ⟨v10, 2, none⟩ = some (.slice fo fl fc)), (22, fun w' => w'.cell? ⟨v10, 0, none⟩ = some (.bool nb) ∧ w'.cell? ⟨v10, 1, none⟩ = some (.slice eo el ec) ∧ w'.cell? ⟨v10, 2, none⟩ = some (.slice fo fl fc))] := fun u B => ⟨(qn.below B).cells, (qu.below B).cells, (qu.below B).cells, (qv.below B).cells, (qu.below B).cells, (qv.below B).cells, (qu.below B).cells, (qv.below B).cells, (qd.below B).cells, (qv.below B).cells, (qu.below B).cells, (qv.below B).cells, (qv.below B).cells, (qu.below B).cells, (qv.below B).cells, (qv.below B).cells, trivial⟩
  refine region_late [(0, fun w' => w'.cell? ⟨v12, 0, none⟩ = some (.bool s0) ∧ w'.cell? ⟨v12, 1, none⟩ = some (.slice f0o l0 f0c) ∧ w'.cell? ⟨v12, 2, none⟩ = some (.slice g0o L0 g0c)), (1, fun w' => w'.cell? ⟨v8, 0, none⟩ = some (.bool na) ∧ w'.cell? ⟨v8, 1, none⟩ = some (.slice uo ul uc) ∧ w'.cell? ⟨v8, 2, none⟩ = some (.slice vo vl vc)), (3, fun w' => w'.cell? ⟨v8, 0, none⟩ = some (.bool na) ∧ w'.cell? ⟨v8, 1, none⟩ = some (.slice uo ul uc) ∧ w'.cell? ⟨v8, 2, none⟩ = some (.slice vo vl vc)), (4, fun w' => w'.cell? ⟨v10, 0, none⟩ = some (.bool nb) ∧ w'.cell? ⟨v10, 1, none⟩ = some (.slice eo el ec) ∧ w'.cell? ⟨v10, 2, none⟩ = some (.slice fo fl fc)), (6, fun w' => w'.cell? ⟨v8, 0, none⟩ = some (.bool na) ∧ w'.cell? ⟨v8, 1, none⟩ = some (.slice uo ul uc) ∧ w'.cell? ⟨v8, 2, none⟩ = some (.slice vo vl vc)), (7, fun w' => w'.cell? ⟨v10, 0, none⟩ = some (.bool nb) ∧ w'.cell? ⟨v10, 1, none⟩ = some (.slice eo el ec) ∧ w'.cell? ⟨v10, 2, none⟩ = some (.slice fo fl fc)), (9, fun w' => w'.cell? ⟨v8, 0, none⟩ = some (.bool na) ∧ w'.cell? ⟨v8, 1, none⟩ = some (.slice uo ul uc) ∧ w'.cell? ⟨v8, 2, none⟩ = some (.slice vo vl vc)), (10, fun w' => w'.cell? ⟨v10, 0, none⟩ = some (.bool nb) ∧ w'.cell? ⟨v10, 1, none⟩ = some (.slice eo el ec) ∧ w'.cell? ⟨v10, 2, none⟩ = some (.slice fo fl fc)), (12, fun w' => w'.cell? ⟨v16, 0, none⟩ = some (.bool s5) ∧ w'.cell? ⟨v16, 1, none⟩ = some (.slice f5o l5 f5c) ∧ w'.cell? ⟨v16, 2, none⟩ = some (.slice g5o L5 g5c)), (13, fun w' => w'.cell? ⟨v10, 0, none⟩ = some (.bool nb) ∧ w'.cell? ⟨v10, 1, none⟩ = some (.slice eo el ec) ∧ w'.cell? ⟨v10, 2, none⟩ = some (.slice fo fl fc)), (14, fun w' => w'.cell? ⟨v8, 0, none⟩ = some (.bool na) ∧ w'.cell? ⟨v8, 1, none⟩ = some (.slice uo ul uc) ∧ w'.cell? ⟨v8, 2, none⟩ = some (.slice vo vl vc)), (16, fun w' => w'.cell? ⟨v10, 0, none⟩ = some (.bool nb) ∧ w'.cell? ⟨v10, 1, none⟩ = some (.slice eo el ec) ∧ w'.cell? ⟨v10, 2, none⟩ = some (.slice fo fl fc)), (18, fun w' => w'.cell? ⟨v10, 0, none⟩ = some (.bool nb) ∧ w'.cell? ⟨v10, 1, none⟩ = some (.slice eo el ec) ∧ w'.cell? ⟨v10, 2, none⟩ = some (.slice fo fl fc)), (19, fun w' => w'.cell? ⟨v8, 0, none⟩ = some (.bool na) ∧ w'.cell? ⟨v8, 1, none⟩ = some (.slice uo ul uc) ∧ w'.cell? ⟨v8, 2, none⟩ = some (.slice vo vl vc)), (21, fun w' => w'.cell? ⟨v10, 0, none⟩ = some (.bool nb) ∧ w'.cell? ⟨v10, 1, none⟩ = some (.slice eo el ec) ∧ w'.cell? ⟨v10, 2, none⟩ = some (.slice fo fl fc)), (22, fun w' => w'.cell? ⟨v10, 0, none⟩ = some (.bool nb) ∧ w'.cell? ⟨v10, 1, none⟩ = some (.slice eo el ec) ∧ w'.cell? ⟨v10, 2, none⟩ = some (.slice fo fl fc))] (by kernel_rfl) ?_
  have BZ : Below W18.heap.size W18 W18.drew := below_drew' _
  obtain ⟨wz, hwz⟩ : ∃ u, u = W18.drew := ⟨_, rfl⟩
  rw [← hwz] at BZ ⊢
  clear hwz
  have hHeld := KEEP _ BZ
  have khA := hA.below BZ
  have khB := hB.below BZ
  replace HBag := HBag.below BZ
  have kB0 := Nat.le_trans hB0 BZ.size
  refine late_tk 0 (v := .agg #[.bool s0, .slice f0o l0 f0c, .slice g0o L0 g0c]) rfl (List.Mem.head _) (Or.inl ⟨by rfl, ?_⟩) hHeld ?_
  · (intro u hu; (try dsimp only at hu); go_split_ands; go_simp)
  (try simp only [Act.put, putA, putB, putC])
  refine late_tk 1 (v := .agg #[.bool na, .slice uo ul uc, .slice vo vl vc]) rfl (List.Mem.tail _ (List.Mem.head _)) (Or.inl ⟨by rfl, ?_⟩) hHeld ?_
  · (intro u hu; (try dsimp only at hu); go_split_ands; go_simp)
  (try simp only [Act.put, putA, putB, putC])
  refine late_tk 3 (v := .agg #[.bool na, .slice uo ul uc, .slice vo vl vc]) rfl (List.Mem.tail _ (List.Mem.tail _ (List.Mem.head _))) (Or.inl ⟨by rfl, ?_⟩) hHeld ?_
  · (intro u hu; (try dsimp only at hu); go_split_ands; go_simp)
  (try simp only [Act.put, putA, putB, putC])
  refine late_tk 4 (v := .agg #[.bool nb, .slice eo el ec, .slice fo fl fc]) rfl (List.Mem.tail _ (List.Mem.tail _ (List.Mem.tail _ (List.Mem.head _)))) (Or.inl ⟨by rfl, ?_⟩) hHeld ?_
  · (intro u hu; (try dsimp only at hu); go_split_ands; go_simp)
  (try simp only [Act.put, putA, putB, putC])
  refine late_tk 6 (v := .agg #[.bool na, .slice uo ul uc, .slice vo vl vc]) rfl (List.Mem.tail _ (List.Mem.tail _ (List.Mem.tail _ (List.Mem.tail _ (List.Mem.head _))))) (Or.inl ⟨by rfl, ?_⟩) hHeld ?_
  · (intro u hu; (try dsimp only at hu); go_split_ands; go_simp)
  (try simp only [Act.put, putA, putB, putC])
  refine late_tk 7 (v := .agg #[.bool nb, .slice eo el ec, .slice fo fl fc]) rfl (List.Mem.tail _ (List.Mem.tail _ (List.Mem.tail _ (List.Mem.tail _ (List.Mem.tail _ (List.Mem.head _)))))) (Or.inl ⟨by rfl, ?_⟩) hHeld ?_
  · (intro u hu; (try dsimp only at hu); go_split_ands; go_simp)
  (try simp only [Act.put, putA, putB, putC])
  refine late_tk 9 (v := .agg #[.bool na, .slice uo ul uc, .slice vo vl vc]) rfl (List.Mem.tail _ (List.Mem.tail _ (List.Mem.tail _ (List.Mem.tail _ (List.Mem.tail _ (List.Mem.tail _ (List.Mem.head _))))))) (Or.inl ⟨by rfl, ?_⟩) hHeld ?_
  · (intro u hu; (try dsimp only at hu); go_split_ands; go_simp)
  (try simp only [Act.put, putA, putB, putC])
  refine late_tk 10 (v := .agg #[.bool nb, .slice eo el ec, .slice fo fl fc]) rfl (List.Mem.tail _ (List.Mem.tail _ (List.Mem.tail _ (List.Mem.tail _ (List.Mem.tail _ (List.Mem.tail _ (List.Mem.tail _ (List.Mem.head _)))))))) (Or.inl ⟨by rfl, ?_⟩) hHeld ?_
  · (intro u hu; (try dsimp only at hu); go_split_ands; go_simp)
  (try simp only [Act.put, putA, putB, putC])
  refine late_tk 12 (v := .agg #[.bool s5, .slice f5o l5 f5c, .slice g5o L5 g5c]) rfl (List.Mem.tail _ (List.Mem.tail _ (List.Mem.tail _ (List.Mem.tail _ (List.Mem.tail _ (List.Mem.tail _ (List.Mem.tail _ (List.Mem.tail _ (List.Mem.head _))))))))) (Or.inl ⟨by rfl, ?_⟩) hHeld ?_
  · (intro u hu; (try dsimp only at hu); go_split_ands; go_simp)
  (try simp only [Act.put, putA, putB, putC])
  refine late_tk 13 (v := .agg #[.bool nb, .slice eo el ec, .slice fo fl fc]) rfl (List.Mem.tail _ (List.Mem.tail _ (List.Mem.tail _ (List.Mem.tail _ (List.Mem.tail _ (List.Mem.tail _ (List.Mem.tail _ (List.Mem.tail _ (List.Mem.tail _ (List.Mem.head _)))))))))) (Or.inl ⟨by rfl, ?_⟩) hHeld ?_
  · (intro u hu; (try dsimp only at hu); go_split_ands; go_simp)
  (try simp only [Act.put, putA, putB, putC])
  refine late_tk 14 (v := .agg #[.bool na, .slice uo ul uc, .slice vo vl vc]) rfl (List.Mem.tail _ (List.Mem.tail _ (List.Mem.tail _ (List.Mem.tail _ (List.Mem.tail _ (List.Mem.tail _ (List.Mem.tail _ (List.Mem.tail _ (List.Mem.tail _ (List.Mem.tail _ (List.Mem.head _))))))))))) (Or.inl ⟨by rfl, ?_⟩) hHeld ?_
  · (intro u hu; (try dsimp only at hu); go_split_ands; go_simp)
  (try simp only [Act.put, putA, putB, putC])
  refine late_tk 16 (v := .agg #[.bool nb, .slice eo el ec, .slice fo fl fc]) rfl (List.Mem.tail _ (List.Mem.tail _ (List.Mem.tail _ (List.Mem.tail _ (List.Mem.tail _ (List.Mem.tail _ (List.Mem.tail _ (List.Mem.tail _ (List.Mem.tail _ (List.Mem.tail _ (List.Mem.tail _ (List.Mem.head _)))))))))))) (Or.inl ⟨by rfl, ?_⟩) hHeld ?_
  · (intro u hu; (try dsimp only at hu); go_split_ands; go_simp)
  (try simp only [Act.put, putA, putB, putC])
  refine late_tk 18 (v := .agg #[.bool nb, .slice eo el ec, .slice fo fl fc]) rfl (List.Mem.tail _ (List.Mem.tail _ (List.Mem.tail _ (List.Mem.tail _ (List.Mem.tail _ (List.Mem.tail _ (List.Mem.tail _ (List.Mem.tail _ (List.Mem.tail _ (List.Mem.tail _ (List.Mem.tail _ (List.Mem.tail _ (List.Mem.head _))))))))))))) (Or.inl ⟨by rfl, ?_⟩) hHeld ?_
  · (intro u hu; (try dsimp only at hu); go_split_ands; go_simp)
  (try simp only [Act.put, putA, putB, putC])
  refine late_tk 19 (v := .agg #[.bool na, .slice uo ul uc, .slice vo vl vc]) rfl (List.Mem.tail _ (List.Mem.tail _ (List.Mem.tail _ (List.Mem.tail _ (List.Mem.tail _ (List.Mem.tail _ (List.Mem.tail _ (List.Mem.tail _ (List.Mem.tail _ (List.Mem.tail _ (List.Mem.tail _ (List.Mem.tail _ (List.Mem.tail _ (List.Mem.head _)))))))))))))) (Or.inl ⟨by rfl, ?_⟩) hHeld ?_
  · (intro u hu; (try dsimp only at hu); go_split_ands; go_simp)
  (try simp only [Act.put, putA, putB, putC])
  refine late_tk 21 (v := .agg #[.bool nb, .slice eo el ec, .slice fo fl fc]) rfl (List.Mem.tail _ (List.Mem.tail _ (List.Mem.tail _ (List.Mem.tail _ (List.Mem.tail _ (List.Mem.tail _ (List.Mem.tail _ (List.Mem.tail _ (List.Mem.tail _ (List.Mem.tail _ (List.Mem.tail _ (List.Mem.tail _ (List.Mem.tail _ (List.Mem.tail _ (List.Mem.head _))))))))))))))) (Or.inl ⟨by rfl, ?_⟩) hHeld ?_
  · (intro u hu; (try dsimp only at hu); go_split_ands; go_simp)
  (try simp only [Act.put, putA, putB, putC])
  refine late_tk 22 (v := .agg #[.bool nb, .slice eo el ec, .slice fo fl fc]) rfl (List.Mem.tail _ (List.Mem.tail _ (List.Mem.tail _ (List.Mem.tail _ (List.Mem.tail _ (List.Mem.tail _ (List.Mem.tail _ (List.Mem.tail _ (List.Mem.tail _ (List.Mem.tail _ (List.Mem.tail _ (List.Mem.tail _ (List.Mem.tail _ (List.Mem.tail _ (List.Mem.tail _ (List.Mem.head _)))))))))))))))) (Or.inl ⟨by rfl, ?_⟩) hHeld ?_
  · (intro u hu; (try dsimp only at hu); go_split_ands; go_simp)
  (try simp only [Act.put, putA, putB, putC])
  refine late_st 2 rfl (fun K hK => ?_)
  go_simp
  refine (F1 _ khA).mono ?_
  rintro e w19 ⟨f1o, f1c, g1o, g1c, rfl, hf1, hg1, pf1, b19⟩
  clear F1
  replace khA := khA.below b19
  replace khB := khB.below b19
  replace HBag := HBag.push2 hf1 hg1 pf1 b19 kB0
  replace kB0 := Nat.le_trans kB0 b19.size
  have hf1n := hf1.num
  have hg1n := hg1.num
  clear hf1 hg1 pf1
  have B19 : Below W18.heap.size W18 w19 := bstep BZ b19
  clear BZ b19
  replace hHeld := KEEP _ B19
  go_wp2_with fail
  refine hK.out _ _ (AllL.kept hHeld) ?_
  clear hK K
  (try simp only [Act.put, putA, putB, putC])
  refine late_st 5 rfl (fun K hK => ?_)
  go_simp
  refine (F2 _ khA khB).mono ?_
  rintro e w20 ⟨f2o, f2c, g2o, g2c, rfl, hf2, hg2, pf2, b20⟩
  clear F2
  replace khA := khA.below b20
  replace khB := khB.below b20
  replace hf1n := hf1n.below (Nat.le_refl _) b20
  replace hg1n := hg1n.below (Nat.le_refl _) b20
  replace HBag := HBag.push2 hf2 hg2 pf2 b20 kB0
  replace kB0 := Nat.le_trans kB0 b20.size
  have hf2n := hf2.num
  have hg2n := hg2.num
  clear hf2 hg2 pf2
  have B20 : Below W18.heap.size W18 w20 := bstep B19 b20
  clear B19 b20
  replace hHeld := KEEP _ B20
  go_wp2_with fail
  refine hK.out _ _ (AllL.kept hHeld) ?_
  clear hK K
  (try simp only [Act.put, putA, putB, putC])
  refine late_st 8 rfl (fun K hK => ?_)
  go_simp
  refine (F3 _ khA khB).mono ?_
  rintro e w21 ⟨f3o, f3c, g3o, g3c, rfl, hf3, hg3, pf3, b21⟩
  clear F3
  replace khA := khA.below b21
  replace khB := khB.below b21
  replace hf1n := hf1n.below (Nat.le_refl _) b21
  replace hg1n := hg1n.below (Nat.le_refl _) b21
  replace hf2n := hf2n.below (Nat.le_refl _) b21
  replace hg2n := hg2n.below (Nat.le_refl _) b21
  replace HBag := HBag.push2 hf3 hg3 pf3 b21 kB0
  replace kB0 := Nat.le_trans kB0 b21.size
  have hf3n := hf3.num
  have hg3n := hg3.num
  clear hf3 hg3 pf3
  have B21 : Below W18.heap.size W18 w21 := bstep B20 b21
  clear B20 b21
  replace hHeld := KEEP _ B21
  go_wp2_with fail
  refine hK.out _ _ (AllL.kept hHeld) ?_
  clear hK K
  (try simp only [Act.put, putA, putB, putC])
  refine late_st 11 rfl (fun K hK => ?_)
  go_simp
  refine (F4 _ khA khB).mono ?_
  rintro e w22 ⟨f4o, f4c, g4o, g4c, rfl, hf4, hg4, pf4, b22⟩
  clear F4
  replace khA := khA.below b22
  replace khB := khB.below b22
  replace hf1n := hf1n.below (Nat.le_refl _) b22
  replace hg1n := hg1n.below (Nat.le_refl _) b22
  replace hf2n := hf2n.below (Nat.le_refl _) b22
  replace hg2n := hg2n.below (Nat.le_refl _) b22
  replace hf3n := hf3n.below (Nat.le_refl _) b22
  replace hg3n := hg3n.below (Nat.le_refl _) b22
  replace HBag := HBag.push2 hf4 hg4 pf4 b22 kB0
  replace kB0 := Nat.le_trans kB0 b22.size
  have hf4n := hf4.num
  have hg4n := hg4.num
  clear hf4 hg4 pf4
  have B22 : Below W18.heap.size W18 w22 := bstep B21 b22
  clear B21 b22
  replace hHeld := KEEP _ B22
  go_wp2_with fail
  refine hK.out _ _ (AllL.kept hHeld) ?_
  clear hK K
  (try simp only [Act.put, putA, putB, putC])
  refine late_st 15 rfl (fun K hK => ?_)
  go_simp
  refine (F6 _ khB khA).mono ?_
  rintro e w23 ⟨f6o, f6c, g6o, g6c, rfl, hf6, hg6, pf6, b23⟩
  clear F6
  replace khA := khA.below b23
  replace khB := khB.below b23
  replace hf1n := hf1n.below (Nat.le_refl _) b23
  replace hg1n := hg1n.below (Nat.le_refl _) b23
  replace hf2n := hf2n.below (Nat.le_refl _) b23
  replace hg2n := hg2n.below (Nat.le_refl _) b23
  replace hf3n := hf3n.below (Nat.le_refl _) b23
  replace hg3n := hg3n.below (Nat.le_refl _) b23
  replace hf4n := hf4n.below (Nat.le_refl _) b23
  replace hg4n := hg4n.below (Nat.le_refl _) b23
  replace HBag := HBag.push2 hf6 hg6 pf6 b23 kB0
  replace kB0 := Nat.le_trans kB0 b23.size
  have hf6n := hf6.num
  have hg6n := hg6.num
  clear hf6 hg6 pf6
  have B23 : Below W18.heap.size W18 w23 := bstep B22 b23
  clear B22 b23
  replace hHeld := KEEP _ B23
  go_wp2_with fail
  refine hK.out _ _ (AllL.kept hHeld) ?_
  clear hK K
  (try simp only [Act.put, putA, putB, putC])
  refine late_st 17 rfl (fun K hK => ?_)
  go_simp
  refine (F7 _ khB).mono ?_
  rintro e w24 ⟨f7o, f7c, g7o, g7c, rfl, hf7, hg7, pf7, b24⟩
  clear F7
  replace khA := khA.below b24
  replace khB := khB.below b24
  replace hf1n := hf1n.below (Nat.le_refl _) b24
  replace hg1n := hg1n.below (Nat.le_refl _) b24
  replace hf2n := hf2n.below (Nat.le_refl _) b24
  replace hg2n := hg2n.below (Nat.le_refl _) b24
  replace hf3n := hf3n.below (Nat.le_refl _) b24
  replace hg3n := hg3n.below (Nat.le_refl _) b24
  replace hf4n := hf4n.below (Nat.le_refl _) b24
  replace hg4n := hg4n.below (Nat.le_refl _) b24
  replace hf6n := hf6n.below (Nat.le_refl _) b24
  replace hg6n := hg6n.below (Nat.le_refl _) b24
  replace HBag := HBag.push2 hf7 hg7 pf7 b24 kB0
  replace kB0 := Nat.le_trans kB0 b24.size
  have hf7n := hf7.num
  have hg7n := hg7.num
  clear hf7 hg7 pf7
  have B24 : Below W18.heap.size W18 w24 := bstep B23 b24
  clear B23 b24
  replace hHeld := KEEP _ B24
  go_wp2_with fail
  refine hK.out _ _ (AllL.kept hHeld) ?_
  clear hK K
  (try simp only [Act.put, putA, putB, putC])
  refine late_st 20 rfl (fun K hK => ?_)
  go_simp
  refine (F8 _ khB khA).mono ?_
  rintro e w25 ⟨f8o, f8c, g8o, g8c, rfl, hf8, hg8, pf8, b25⟩
  clear F8
  replace khA := khA.below b25
  replace khB := khB.below b25
  replace hf1n := hf1n.below (Nat.le_refl _) b25
  replace hg1n := hg1n.below (Nat.le_refl _) b25
  replace hf2n := hf2n.below (Nat.le_refl _) b25
  replace hg2n := hg2n.below (Nat.le_refl _) b25
  replace hf3n := hf3n.below (Nat.le_refl _) b25
  replace hg3n := hg3n.below (Nat.le_refl _) b25
  replace hf4n := hf4n.below (Nat.le_refl _) b25
  replace hg4n := hg4n.below (Nat.le_refl _) b25
  replace hf6n := hf6n.below (Nat.le_refl _) b25
  replace hg6n := hg6n.below (Nat.le_refl _) b25
  replace hf7n := hf7n.below (Nat.le_refl _) b25
  replace hg7n := hg7n.below (Nat.le_refl _) b25
  replace HBag := HBag.push2 hf8 hg8 pf8 b25 kB0
  replace kB0 := Nat.le_trans kB0 b25.size
  have hf8n := hf8.num
  have hg8n := hg8.num
  clear hf8 hg8 pf8
  have B25 : Below W18.heap.size W18 w25 := bstep B24 b25
  clear B24 b25
  replace hHeld := KEEP _ B25
  go_wp2_with fail
  refine hK.out _ _ (AllL.kept hHeld) ?_
  clear hK K
  (try simp only [Act.put, putA, putB, putC])
  refine late_st 23 rfl (fun K hK => ?_)
  go_simp
  refine (F9 _ khB khB).mono ?_
  rintro e w26 ⟨f9o, f9c, g9o, g9c, rfl, hf9, hg9, pf9, b26⟩
  clear F9
  replace khA := khA.below b26
  replace khB := khB.below b26
  replace hf1n := hf1n.below (Nat.le_refl _) b26
  replace hg1n := hg1n.below (Nat.le_refl _) b26
  replace hf2n := hf2n.below (Nat.le_refl _) b26
  replace hg2n := hg2n.below (Nat.le_refl _) b26
  replace hf3n := hf3n.below (Nat.le_refl _) b26
  replace hg3n := hg3n.below (Nat.le_refl _) b26
  replace hf4n := hf4n.below (Nat.le_refl _) b26
  replace hg4n := hg4n.below (Nat.le_refl _) b26
  replace hf6n := hf6n.below (Nat.le_refl _) b26
  replace hg6n := hg6n.below (Nat.le_refl _) b26
  replace hf7n := hf7n.below (Nat.le_refl _) b26
  replace hg7n := hg7n.below (Nat.le_refl _) b26
  replace hf8n := hf8n.below (Nat.le_refl _) b26
  replace hg8n := hg8n.below (Nat.le_refl _) b26
  replace HBag := HBag.push2 hf9 hg9 pf9 b26 kB0
  replace kB0 := Nat.le_trans kB0 b26.size
  have hf9n := hf9.num
  have hg9n := hg9.num
  clear hf9 hg9 pf9
  have B26 : Below W18.heap.size W18 w26 := bstep B25 b26
  clear B25 b26
  replace hHeld := KEEP _ B26
  go_wp2_with fail
  refine hK.out _ _ (AllL.kept hHeld) ?_
  clear hK K
  (try simp only [Act.put, putA, putB, putC])
  clear KEEP khA khB kB0
  obtain ⟨WG, hWG⟩ : ∃ W, W = w26.alloc (.cells #[.bool s0, .slice f0o l0 f0c, .slice g0o L0 g0c, .bool s1, .slice f1o l1 f1c, .slice g1o L1 g1c, .bool s2, .slice f2o l2 f2c, .slice g2o L2 g2c, .bool s3, .slice f3o l3 f3c, .slice g3o L3 g3c, .bool s4, .slice f4o l4 f4c, .slice g4o L4 g4c, .bool s5, .slice f5o l5 f5c, .slice g5o L5 g5c, .bool s6, .slice f6o l6 f6c, .slice g6o L6 g6c, .bool s7, .slice f7o l7 f7c, .slice g7o L7 g7c, .bool s8, .slice f8o l8 f8c, .slice g8o L8 g8c, .bool s9, .slice f9o l9 f9c, .slice g9o L9 g9c] 27) := ⟨_, rfl⟩
  have rG : RowB WG w26.heap.size #[.bool s0, .slice f0o l0 f0c, .slice g0o L0 g0c, .bool s1, .slice f1o l1 f1c, .slice g1o L1 g1c, .bool s2, .slice f2o l2 f2c, .slice g2o L2 g2c, .bool s3, .slice f3o l3 f3c, .slice g3o L3 g3c, .bool s4, .slice f4o l4 f4c, .slice g4o L4 g4c, .bool s5, .slice f5o l5 f5c, .slice g5o L5 g5c, .bool s6, .slice f6o l6 f6c, .slice g6o L6 g6c, .bool s7, .slice f7o l7 f7c, .slice g7o L7 g7c, .bool s8, .slice f8o l8 f8c, .slice g8o L8 g8c, .bool s9, .slice f9o l9 f9c, .slice g9o L9 g9c] := by rw [hWG]; exact heap_alloc_new _ _
  have bG : Below w26.heap.size w26 WG := by rw [hWG]; exact belowA _ _
  refine late_st 24 rfl (fun K hK => ?_)
  go_simp
  refine hK.out _ _ ⟨kpt 24, kpt 2, kpt 5, kpt 5, kpt 8, kpt 8, kpt 11, kpt 11, kpt 24, kpt 15, kpt 15, kpt 17, kpt 20, kpt 20, kpt 23, kpt 23, trivial⟩ ?_
  clear hK K
  (try simp only [Act.put, putA, putB, putC])
  refine late_st 25 rfl (fun K hK => ?_)
  go_simp
  refine hK.out _ _ ⟨kpt 24, kpt 2, kpt 5, kpt 5, kpt 8, kpt 8, kpt 11, kpt 11, kpt 24, kpt 15, kpt 15, kpt 17, kpt 20, kpt 20, kpt 23, kpt 23, trivial⟩ ?_
  clear hK K
  (try simp only [Act.put, putA, putB, putC])
  refine late_done (by kernel_rfl) ?_ _
  rw [← hWG]
  clear hWG hHeld
  obtain ⟨vG, hvG⟩ : ∃ v, v = w26.heap.size := ⟨_, rfl⟩
  rw [← hvG] at rG ⊢
  clear hvG
  have b : Below W18.heap.size W18 WG := bstep B26 bG
  replace hf1n := hf1n.below (Nat.le_refl _) bG
  replace hg1n := hg1n.below (Nat.le_refl _) bG
  replace hf2n := hf2n.below (Nat.le_refl _) bG
  replace hg2n := hg2n.below (Nat.le_refl _) bG
  replace hf3n := hf3n.below (Nat.le_refl _) bG
  replace hg3n := hg3n.below (Nat.le_refl _) bG
  replace hf4n := hf4n.below (Nat.le_refl _) bG
  replace hg4n := hg4n.below (Nat.le_refl _) bG
  replace hf6n := hf6n.below (Nat.le_refl _) bG
  replace hg6n := hg6n.below (Nat.le_refl _) bG
  replace hf7n := hf7n.below (Nat.le_refl _) bG
  replace hg7n := hg7n.below (Nat.le_refl _) bG
  replace hf8n := hf8n.below (Nat.le_refl _) bG
  replace hg8n := hg8n.below (Nat.le_refl _) bG
  replace hf9n := hf9n.below (Nat.le_refl _) bG
  replace hg9n := hg9n.below (Nat.le_refl _) bG
  replace HBag := HBag.below bG
  clear bG B26
  replace ra := ra.below b
  replace rb := rb.below b
  replace rc := rc.below b
  replace rd := rd.below b
  replace hX := hX.below b
  replace hY := hY.below b
  replace hA := hA.below b
  replace hB := hB.below b
  replace hB0 := Nat.le_trans hB0 b.size
  replace hf0n := hf0n.below (Nat.le_refl _) b
  replace hg0n := hg0n.below (Nat.le_refl _) b
  replace hx0 := hx0.below (Nat.le_refl _) b
  replace hy0 := hy0.below (Nat.le_refl _) b
  replace hf5n := hf5n.below (Nat.le_refl _) b
  replace hg5n := hg5n.below (Nat.le_refl _) b
  replace hx5 := hx5.below (Nat.le_refl _) b
  replace hy5 := hy5.below (Nat.le_refl _) b
  replace qa := qa.below b
  replace qb := qb.below b
  replace qu := qu.below b
  replace qv := qv.below b
  replace qn := qn.below b
  replace qm := qm.below b
  replace qd := qd.below b
  replace qo := qo.below b
  replace hb := bstep hb b
  replace hsz := Nat.lt_of_lt_of_le hsz b.size
  clear b
  go_wp2_with fail
  have KEEP : ∀ u, Below WG.heap.size WG u → AllL u [(0, fun w' => w'.cell? ⟨v14, 0, none⟩ = some (.bool s0) ∧ w'.cell? ⟨v14, 1, none⟩ = some (.slice x0o l0 x0c) ∧ w'.cell? ⟨v14, 2, none⟩ = some (.slice y0o L0 y0c)), (1, fun w' => w'.cell? ⟨g, 0, none⟩ = some (.bool na) ∧ w'.cell? ⟨g, 1, none⟩ = some (.slice ao al2 ac) ∧ w'.cell? ⟨g, 2, none⟩ = some (.slice aO aL2 aC)), (3, fun w' => w'.cell? ⟨g, 0, none⟩ = some (.bool na) ∧ w'.cell? ⟨g, 1, none⟩ = some (.slice ao al2 ac) ∧ w'.cell? ⟨g, 2, none⟩ = some (.slice aO aL2 aC)), (4, fun w' => w'.cell? ⟨g + 1, 0, none⟩ = some (.bool nb) ∧ w'.cell? ⟨g + 1, 1, none⟩ = some (.slice bo bl2 bc) ∧ w'.cell? ⟨g + 1, 2, none⟩ = some (.slice bO bL2 bC)), (6, fun w' => w'.cell? ⟨g, 0, none⟩ = some (.bool na) ∧ w'.cell? ⟨g, 1, none⟩ = some (.slice ao al2 ac) ∧ w'.cell? ⟨g, 2, none⟩ = some (.slice aO aL2 aC)), (7, fun w' => w'.cell? ⟨g + 1, 0, none⟩ = some (.bool nb) ∧ w'.cell? ⟨g + 1, 1, none⟩ = some (.slice bo bl2 bc) ∧ w'.cell? ⟨g + 1, 2, none⟩ = some (.slice bO bL2 bC)), (9, fun w' => w'.cell? ⟨g, 0, none⟩ = some (.bool na) ∧ w'.cell? ⟨g, 1, none⟩ = some (.slice ao al2 ac) ∧ w'.cell? ⟨g, 2, none⟩ = some (.slice aO aL2 aC)), (10, fun w' => w'.cell? ⟨g + 1, 0, none⟩ = some (.bool nb) ∧ w'.cell? ⟨g + 1, 1, none⟩ = some (.slice bo bl2 bc) ∧ w'.cell? ⟨g + 1, 2, none⟩ = some (.slice bO bL2 bC)), (12, fun w' => w'.cell? ⟨v18, 0, none⟩ = some (.bool s5) ∧ w'.cell? ⟨v18, 1, none⟩ = some (.slice x5o l5 x5c) ∧ w'.cell? ⟨v18, 2, none⟩ = some (.slice y5o L5 y5c)), (13, fun w' => w'.cell? ⟨g + 1, 0, none⟩ = some (.bool nb) ∧ w'.cell? ⟨g + 1, 1, none⟩ = some (.slice bo bl2 bc) ∧ w'.cell? ⟨g + 1, 2, none⟩ = some (.slice bO bL2 bC)), (14, fun w' => w'.cell? ⟨g, 0, none⟩ = some (.bool na) ∧ w'.cell? ⟨g, 1, none⟩ = some (.slice ao al2 ac) ∧ w'.cell? ⟨g, 2, none⟩ = some (.slice aO aL2 aC)), (16, fun w' => w'.cell? ⟨g + 1, 0, none⟩ = some (.bool nb) ∧ w'.cell? ⟨g + 1, 1, none⟩ = some (.slice bo bl2 bc) ∧ w'.cell? ⟨g + 1, 2, none⟩ = some (.slice bO bL2 bC)), (18, fun w' => w'.cell? ⟨g + 1, 0, none⟩ = some (.bool nb) ∧ w'.cell? ⟨g + 1, 1, none⟩ = some (.slice bo bl2 bc) ∧ w'.cell? ⟨g + 1, 2, none⟩ = some (.slice bO bL2 bC)), (19, fun w' => w'.cell? ⟨g, 0, none⟩ = some (.bool na) ∧ w'.cell? ⟨g, 1, none⟩ = some (.slice ao al2 ac) ∧ w'.cell? ⟨g, 2, none⟩ = some (.slice aO aL2 aC)), (21, fun w' => w'.cell? ⟨g + 1, 0, none⟩ = some (.bool nb) ∧ w'.cell? ⟨g + 1, 1, none⟩ = some (.slice bo bl2 bc) ∧ w'.cell? ⟨g + 1, 2, none⟩ = some (.slice bO bL2 bC)), (22, fun w' => w'.cell? ⟨g + 1, 0, none⟩ = some (.bool nb) ∧ w'.cell? ⟨g + 1, 1, none⟩ = some (.slice bo bl2 bc) ∧ w'.cell? ⟨g + 1, 2, none⟩ = some (.slice bO bL2 bC))] := fun u B => ⟨(qm.below B).cells, (qa.below B).cells, (qa.below B).cells, (qb.below B).cells, (qa.below B).cells, (qb.below B).cells, (qa.below B).cells, (qb.below B).cells, (qo.below B).cells, (qb.below B).cells, (qa.below B).cells, (qb.below B).cells, (qb.below B).cells, (qa.below B).cells, (qb.below B).cells, (qb.below B).cells, trivial⟩
  refine region_late [(0, fun w' => w'.cell? ⟨v14, 0, none⟩ = some (.bool s0) ∧ w'.cell? ⟨v14, 1, none⟩ = some (.slice x0o l0 x0c) ∧ w'.cell? ⟨v14, 2, none⟩ = some (.slice y0o L0 y0c)), (1, fun w' => w'.cell? ⟨g, 0, none⟩ = some (.bool na) ∧ w'.cell? ⟨g, 1, none⟩ = some (.slice ao al2 ac) ∧ w'.cell? ⟨g, 2, none⟩ = some (.slice aO aL2 aC)), (3, fun w' => w'.cell? ⟨g, 0, none⟩ = some (.bool na) ∧ w'.cell? ⟨g, 1, none⟩ = some (.slice ao al2 ac) ∧ w'.cell? ⟨g, 2, none⟩ = some (.slice aO aL2 aC)), (4, fun w' => w'.cell? ⟨g + 1, 0, none⟩ = some (.bool nb) ∧ w'.cell? ⟨g + 1, 1, none⟩ = some (.slice bo bl2 bc) ∧ w'.cell? ⟨g + 1, 2, none⟩ = some (.slice bO bL2 bC)), (6, fun w' => w'.cell? ⟨g, 0, none⟩ = some (.bool na) ∧ w'.cell? ⟨g, 1, none⟩ = some (.slice ao al2 ac) ∧ w'.cell? ⟨g, 2, none⟩ = some (.slice aO aL2 aC)), (7, fun w' => w'.cell? ⟨g + 1, 0, none⟩ = some (.bool nb) ∧ w'.cell? ⟨g + 1, 1, none⟩ = some (.slice bo bl2 bc) ∧ w'.cell? ⟨g + 1, 2, none⟩ = some (.slice bO bL2 bC)), (9, fun w' => w'.cell? ⟨g, 0, none⟩ = some (.bool na) ∧ w'.cell? ⟨g, 1, none⟩ = some (.slice ao al2 ac) ∧ w'.cell? ⟨g, 2, none⟩ = some (.slice aO aL2 aC)), (10, fun w' => w'.cell? ⟨g + 1, 0, none⟩ = some (.bool nb) ∧ w'.cell? ⟨g + 1, 1, none⟩ = some (.slice bo bl2 bc) ∧ w'.cell? ⟨g + 1, 2, none⟩ = some (.slice bO bL2 bC)), (12, fun w' => w'.cell? ⟨v18, 0, none⟩ = some (.bool s5) ∧ w'.cell? ⟨v18, 1, none⟩ = some (.slice x5o l5 x5c) ∧ w'.cell? ⟨v18, 2, none⟩ = some (.slice y5o L5 y5c)), (13, fun w' => w'.cell? ⟨g + 1, 0, none⟩ = some (.bool nb) ∧ w'.cell? ⟨g + 1, 1, none⟩ = some (.slice bo bl2 bc) ∧ w'.cell? ⟨g + 1, 2, none⟩ = some (.slice bO bL2 bC)), (14, fun w' => w'.cell? ⟨g, 0, none⟩ = some (.bool na) ∧ w'.cell? ⟨g, 1, none⟩ = some (.slice ao al2 ac) ∧ w'.cell? ⟨g, 2, none⟩ = some (.slice aO aL2 aC)), (16, fun w' => w'.cell? ⟨g + 1, 0, none⟩ = some (.bool nb) ∧ w'.cell? ⟨g + 1, 1, none⟩ = some (.slice bo bl2 bc) ∧ w'.cell? ⟨g + 1, 2, none⟩ = some (.slice bO bL2 bC)), (18, fun w' => w'.cell? ⟨g + 1, 0, none⟩ = some (.bool nb) ∧ w'.cell? ⟨g + 1, 1, none⟩ = some (.slice bo bl2 bc) ∧ w'.cell? ⟨g + 1, 2, none⟩ = some (.slice bO bL2 bC)), (19, fun w' => w'.cell? ⟨g, 0, none⟩ = some (.bool na) ∧ w'.cell? ⟨g, 1, none⟩ = some (.slice ao al2 ac) ∧ w'.cell? ⟨g, 2, none⟩ = some (.slice aO aL2 aC)), (21, fun w' => w'.cell? ⟨g + 1, 0, none⟩ = some (.bool nb) ∧ w'.cell? ⟨g + 1, 1, none⟩ = some (.slice bo bl2 bc) ∧ w'.cell? ⟨g + 1, 2, none⟩ = some (.slice bO bL2 bC)), (22, fun w' => w'.cell? ⟨g + 1, 0, none⟩ = some (.bool nb) ∧ w'.cell? ⟨g + 1, 1, none⟩ = some (.slice bo bl2 bc) ∧ w'.cell? ⟨g + 1, 2, none⟩ = some (.slice bO bL2 bC))] (by kernel_rfl) ?_
  have BZ : Below WG.heap.size WG WG.drew := below_drew' _
  obtain ⟨wz, hwz⟩ : ∃ u, u = WG.drew := ⟨_, rfl⟩
  rw [← hwz] at BZ ⊢
  clear hwz
  have hHeld := KEEP _ BZ
  have khX := hX.below BZ
  have khY := hY.below BZ
  refine late_tk 0 (v := .agg #[.bool s0, .slice x0o l0 x0c, .slice y0o L0 y0c]) rfl (List.Mem.head _) (Or.inl ⟨by rfl, ?_⟩) hHeld ?_
  · (intro u hu; (try dsimp only at hu); go_split_ands; go_simp)
  (try simp only [Act.put, putA, putB, putC])
  refine late_tk 1 (v := .agg #[.bool na, .slice ao al2 ac, .slice aO aL2 aC]) rfl (List.Mem.tail _ (List.Mem.head _)) (Or.inl ⟨by rfl, ?_⟩) hHeld ?_
  · (intro u hu; (try dsimp only at hu); go_split_ands; go_simp)
  (try simp only [Act.put, putA, putB, putC])
  refine late_tk 3 (v := .agg #[.bool na, .slice ao al2 ac, .slice aO aL2 aC]) rfl (List.Mem.tail _ (List.Mem.tail _ (List.Mem.head _))) (Or.inl ⟨by rfl, ?_⟩) hHeld ?_
  · (intro u hu; (try dsimp only at hu); go_split_ands; go_simp)
  (try simp only [Act.put, putA, putB, putC])
  refine late_tk 4 (v := .agg #[.bool nb, .slice bo bl2 bc, .slice bO bL2 bC]) rfl (List.Mem.tail _ (List.Mem.tail _ (List.Mem.tail _ (List.Mem.head _)))) (Or.inl ⟨by rfl, ?_⟩) hHeld ?_
  · (intro u hu; (try dsimp only at hu); go_split_ands; go_simp)
  (try simp only [Act.put, putA, putB, putC])
  refine late_tk 6 (v := .agg #[.bool na, .slice ao al2 ac, .slice aO aL2 aC]) rfl (List.Mem.tail _ (List.Mem.tail _ (List.Mem.tail _ (List.Mem.tail _ (List.Mem.head _))))) (Or.inl ⟨by rfl, ?_⟩) hHeld ?_
  · (intro u hu; (try dsimp only at hu); go_split_ands; go_simp)
  (try simp only [Act.put, putA, putB, putC])
  refine late_tk 7 (v := .agg #[.bool nb, .slice bo bl2 bc, .slice bO bL2 bC]) rfl (List.Mem.tail _ (List.Mem.tail _ (List.Mem.tail _ (List.Mem.tail _ (List.Mem.tail _ (List.Mem.head _)))))) (Or.inl ⟨by rfl, ?_⟩) hHeld ?_
  · (intro u hu; (try dsimp only at hu); go_split_ands; go_simp)
  (try simp only [Act.put, putA, putB, putC])
  refine late_tk 9 (v := .agg #[.bool na, .slice ao al2 ac, .slice aO aL2 aC]) rfl (List.Mem.tail _ (List.Mem.tail _ (List.Mem.tail _ (List.Mem.tail _ (List.Mem.tail _ (List.Mem.tail _ (List.Mem.head _))))))) (Or.inl ⟨by rfl, ?_⟩) hHeld ?_
  · (intro u hu; (try dsimp only at hu); go_split_ands; go_simp)
  (try simp only [Act.put, putA, putB, putC])
  refine late_tk 10 (v := .agg #[.bool nb, .slice bo bl2 bc, .slice bO bL2 bC]) rfl (List.Mem.tail _ (List.Mem.tail _ (List.Mem.tail _ (List.Mem.tail _ (List.Mem.tail _ (List.Mem.tail _ (List.Mem.tail _ (List.Mem.head _)))))))) (Or.inl ⟨by rfl, ?_⟩) hHeld ?_
  · (intro u hu; (try dsimp only at hu); go_split_ands; go_simp)
  (try simp only [Act.put, putA, putB, putC])
  refine late_tk 12 (v := .agg #[.bool s5, .slice x5o l5 x5c, .slice y5o L5 y5c]) rfl (List.Mem.tail _ (List.Mem.tail _ (List.Mem.tail _ (List.Mem.tail _ (List.Mem.tail _ (List.Mem.tail _ (List.Mem.tail _ (List.Mem.tail _ (List.Mem.head _))))))))) (Or.inl ⟨by rfl, ?_⟩) hHeld ?_
  · (intro u hu; (try dsimp only at hu); go_split_ands; go_simp)
  (try simp only [Act.put, putA, putB, putC])
  refine late_tk 13 (v := .agg #[.bool nb, .slice bo bl2 bc, .slice bO bL2 bC]) rfl (List.Mem.tail _ (List.Mem.tail _ (List.Mem.tail _ (List.Mem.tail _ (List.Mem.tail _ (List.Mem.tail _ (List.Mem.tail _ (List.Mem.tail _ (List.Mem.tail _ (List.Mem.head _)))))))))) (Or.inl ⟨by rfl, ?_⟩) hHeld ?_
  · (intro u hu; (try dsimp only at hu); go_split_ands; go_simp)
  (try simp only [Act.put, putA, putB, putC])
  refine late_tk 14 (v := .agg #[.bool na, .slice ao al2 ac, .slice aO aL2 aC]) rfl (List.Mem.tail _ (List.Mem.tail _ (List.Mem.tail _ (List.Mem.tail _ (List.Mem.tail _ (List.Mem.tail _ (List.Mem.tail _ (List.Mem.tail _ (List.Mem.tail _ (List.Mem.tail _ (List.Mem.head _))))))))))) (Or.inl ⟨by rfl, ?_⟩) hHeld ?_
  · (intro u hu; (try dsimp only at hu); go_split_ands; go_simp)
  (try simp only [Act.put, putA, putB, putC])
  refine late_tk 16 (v := .agg #[.bool nb, .slice bo bl2 bc, .slice bO bL2 bC]) rfl (List.Mem.tail _ (List.Mem.tail _ (List.Mem.tail _ (List.Mem.tail _ (List.Mem.tail _ (List.Mem.tail _ (List.Mem.tail _ (List.Mem.tail _ (List.Mem.tail _ (List.Mem.tail _ (List.Mem.tail _ (List.Mem.head _)))))))))))) (Or.inl ⟨by rfl, ?_⟩) hHeld ?_
  · (intro u hu; (try dsimp only at hu); go_split_ands; go_simp)
  (try simp only [Act.put, putA, putB, putC])
  refine late_tk 18 (v := .agg #[.bool nb, .slice bo bl2 bc, .slice bO bL2 bC]) rfl (List.Mem.tail _ (List.Mem.tail _ (List.Mem.tail _ (List.Mem.tail _ (List.Mem.tail _ (List.Mem.tail _ (List.Mem.tail _ (List.Mem.tail _ (List.Mem.tail _ (List.Mem.tail _ (List.Mem.tail _ (List.Mem.tail _ (List.Mem.head _))))))))))))) (Or.inl ⟨by rfl, ?_⟩) hHeld ?_
  · (intro u hu; (try dsimp only at hu); go_split_ands; go_simp)
  (try simp only [Act.put, putA, putB, putC])
  refine late_tk 19 (v := .agg #[.bool na, .slice ao al2 ac, .slice aO aL2 aC]) rfl (List.Mem.tail _ (List.Mem.tail _ (List.Mem.tail _ (List.Mem.tail _ (List.Mem.tail _ (List.Mem.tail _ (List.Mem.tail _ (List.Mem.tail _ (List.Mem.tail _ (List.Mem.tail _ (List.Mem.tail _ (List.Mem.tail _ (List.Mem.tail _ (List.Mem.head _)))))))))))))) (Or.inl ⟨by rfl, ?_⟩) hHeld ?_
  · (intro u hu; (try dsimp only at hu); go_split_ands; go_simp)
  (try simp only [Act.put, putA, putB, putC])
  refine late_tk 21 (v := .agg #[.bool nb, .slice bo bl2 bc, .slice bO bL2 bC]) rfl (List.Mem.tail _ (List.Mem.tail _ (List.Mem.tail _ (List.Mem.tail _ (List.Mem.tail _ (List.Mem.tail _ (List.Mem.tail _ (List.Mem.tail _ (List.Mem.tail _ (List.Mem.tail _ (List.Mem.tail _ (List.Mem.tail _ (List.Mem.tail _ (List.Mem.tail _ (List.Mem.head _))))))))))))))) (Or.inl ⟨by rfl, ?_⟩) hHeld ?_
  · (intro u hu; (try dsimp only at hu); go_split_ands; go_simp)
  (try simp only [Act.put, putA, putB, putC])
  refine late_tk 22 (v := .agg #[.bool nb, .slice bo bl2 bc, .slice bO bL2 bC]) rfl (List.Mem.tail _ (List.Mem.tail _ (List.Mem.tail _ (List.Mem.tail _ (List.Mem.tail _ (List.Mem.tail _ (List.Mem.tail _ (List.Mem.tail _ (List.Mem.tail _ (List.Mem.tail _ (List.Mem.tail _ (List.Mem.tail _ (List.Mem.tail _ (List.Mem.tail _ (List.Mem.tail _ (List.Mem.head _)))))))))))))))) (Or.inl ⟨by rfl, ?_⟩) hHeld ?_
  · (intro u hu; (try dsimp only at hu); go_split_ands; go_simp)
  (try simp only [Act.put, putA, putB, putC])
  refine late_st 2 rfl (fun K hK => ?_)
  go_simp
  refine (R1 _ khX).mono ?_
  rintro e w27 ⟨x1o, x1c, y1o, y1c, rfl, hx1, hy1, _, b27⟩
  clear R1
  replace khX := khX.below b27
  replace khY := khY.below b27
  replace hx1 := hx1.num
  replace hy1 := hy1.num
  have B27 : Below WG.heap.size WG w27 := bstep BZ b27
  clear BZ b27
  replace hHeld := KEEP _ B27
  go_wp2_with fail
  refine hK.out _ _ (AllL.kept hHeld) ?_
  clear hK K
  (try simp only [Act.put, putA, putB, putC])
  refine late_st 5 rfl (fun K hK => ?_)
  go_simp
  refine (R2 _ khX khY).mono ?_
  rintro e w28 ⟨x2o, x2c, y2o, y2c, rfl, hx2, hy2, _, b28⟩
  clear R2
  replace khX := khX.below b28
  replace khY := khY.below b28
  replace hx1 := hx1.below (Nat.le_refl _) b28
  replace hy1 := hy1.below (Nat.le_refl _) b28
  replace hx2 := hx2.num
  replace hy2 := hy2.num
  have B28 : Below WG.heap.size WG w28 := bstep B27 b28
  clear B27 b28
  replace hHeld := KEEP _ B28
  go_wp2_with fail
  refine hK.out _ _ (AllL.kept hHeld) ?_
  clear hK K
  (try simp only [Act.put, putA, putB, putC])
  refine late_st 8 rfl (fun K hK => ?_)
  go_simp
  refine (R3 _ khX khY).mono ?_
  rintro e w29 ⟨x3o, x3c, y3o, y3c, rfl, hx3, hy3, _, b29⟩
  clear R3
  replace khX := khX.below b29
  replace khY := khY.below b29
  replace hx1 := hx1.below (Nat.le_refl _) b29
  replace hy1 := hy1.below (Nat.le_refl _) b29
  replace hx2 := hx2.below (Nat.le_refl _) b29
  replace hy2 := hy2.below (Nat.le_refl _) b29
  replace hx3 := hx3.num
  replace hy3 := hy3.num
  have B29 : Below WG.heap.size WG w29 := bstep B28 b29
  clear B28 b29
  replace hHeld := KEEP _ B29
  go_wp2_with fail
  refine hK.out _ _ (AllL.kept hHeld) ?_
  clear hK K
  (try simp only [Act.put, putA, putB, putC])
  refine late_st 11 rfl (fun K hK => ?_)
  go_simp
  refine (R4 _ khX khY).mono ?_
  rintro e w30 ⟨x4o, x4c, y4o, y4c, rfl, hx4, hy4, _, b30⟩
  clear R4
  replace khX := khX.below b30
  replace khY := khY.below b30
  replace hx1 := hx1.below (Nat.le_refl _) b30
  replace hy1 := hy1.below (Nat.le_refl _) b30
  replace hx2 := hx2.below (Nat.le_refl _) b30
  replace hy2 := hy2.below (Nat.le_refl _) b30
  replace hx3 := hx3.below (Nat.le_refl _) b30
  replace hy3 := hy3.below (Nat.le_refl _) b30
  replace hx4 := hx4.num
  replace hy4 := hy4.num
  have B30 : Below WG.heap.size WG w30 := bstep B29 b30
  clear B29 b30
  replace hHeld := KEEP _ B30
  go_wp2_with fail
  refine hK.out _ _ (AllL.kept hHeld) ?_
  clear hK K
  (try simp only [Act.put, putA, putB, putC])
  refine late_st 15 rfl (fun K hK => ?_)
  go_simp
  refine (R6 _ khY khX).mono ?_
  rintro e w31 ⟨x6o, x6c, y6o, y6c, rfl, hx6, hy6, _, b31⟩
  clear R6
  replace khX := khX.below b31
  replace khY := khY.below b31
  replace hx1 := hx1.below (Nat.le_refl _) b31
  replace hy1 := hy1.below (Nat.le_refl _) b31
  replace hx2 := hx2.below (Nat.le_refl _) b31
  replace hy2 := hy2.below (Nat.le_refl _) b31
  replace hx3 := hx3.below (Nat.le_refl _) b31
  replace hy3 := hy3.below (Nat.le_refl _) b31
  replace hx4 := hx4.below (Nat.le_refl _) b31
  replace hy4 := hy4.below (Nat.le_refl _) b31
  replace hx6 := hx6.num
  replace hy6 := hy6.num
  have B31 : Below WG.heap.size WG w31 := bstep B30 b31
  clear B30 b31
  replace hHeld := KEEP _ B31
  go_wp2_with fail
  refine hK.out _ _ (AllL.kept hHeld) ?_
  clear hK K
  (try simp only [Act.put, putA, putB, putC])
  refine late_st 17 rfl (fun K hK => ?_)
  go_simp
  refine (R7 _ khY).mono ?_
  rintro e w32 ⟨x7o, x7c, y7o, y7c, rfl, hx7, hy7, _, b32⟩
  clear R7
  replace khX := khX.below b32
  replace khY := khY.below b32
  replace hx1 := hx1.below (Nat.le_refl _) b32
  replace hy1 := hy1.below (Nat.le_refl _) b32
  replace hx2 := hx2.below (Nat.le_refl _) b32
  replace hy2 := hy2.below (Nat.le_refl _) b32
  replace hx3 := hx3.below (Nat.le_refl _) b32
  replace hy3 := hy3.below (Nat.le_refl _) b32
  replace hx4 := hx4.below (Nat.le_refl _) b32
  replace hy4 := hy4.below (Nat.le_refl _) b32
  replace hx6 := hx6.below (Nat.le_refl _) b32
  replace hy6 := hy6.below (Nat.le_refl _) b32
  replace hx7 := hx7.num
  replace hy7 := hy7.num
  have B32 : Below WG.heap.size WG w32 := bstep B31 b32
  clear B31 b32
  replace hHeld := KEEP _ B32
  go_wp2_with fail
  refine hK.out _ _ (AllL.kept hHeld) ?_
  clear hK K
  (try simp only [Act.put, putA, putB, putC])
  refine late_st 20 rfl (fun K hK => ?_)
  go_simp
  refine (R8 _ khY khX).mono ?_
  rintro e w33 ⟨x8o, x8c, y8o, y8c, rfl, hx8, hy8, _, b33⟩
  clear R8
  replace khX := khX.below b33
  replace khY := khY.below b33
  replace hx1 := hx1.below (Nat.le_refl _) b33
  replace hy1 := hy1.below (Nat.le_refl _) b33
  replace hx2 := hx2.below (Nat.le_refl _) b33
  replace hy2 := hy2.below (Nat.le_refl _) b33
  replace hx3 := hx3.below (Nat.le_refl _) b33
  replace hy3 := hy3.below (Nat.le_refl _) b33
  replace hx4 := hx4.below (Nat.le_refl _) b33
  replace hy4 := hy4.below (Nat.le_refl _) b33
  replace hx6 := hx6.below (Nat.le_refl _) b33
  replace hy6 := hy6.below (Nat.le_refl _) b33
  replace hx7 := hx7.below (Nat.le_refl _) b33
  replace hy7 := hy7.below (Nat.le_refl _) b33
  replace hx8 := hx8.num
  replace hy8 := hy8.num
  have B33 : Below WG.heap.size WG w33 := bstep B32 b33
  clear B32 b33
  replace hHeld := KEEP _ B33
  go_wp2_with fail
  refine hK.out _ _ (AllL.kept hHeld) ?_
  clear hK K
  (try simp only [Act.put, putA, putB, putC])
  refine late_st 23 rfl (fun K hK => ?_)
  go_simp
  refine (R9 _ khY khY).mono ?_
  rintro e w34 ⟨x9o, x9c, y9o, y9c, rfl, hx9, hy9, _, b34⟩
  clear R9
  replace khX := khX.below b34
  replace khY := khY.below b34
  replace hx1 := hx1.below (Nat.le_refl _) b34
  replace hy1 := hy1.below (Nat.le_refl _) b34
  replace hx2 := hx2.below (Nat.le_refl _) b34
  replace hy2 := hy2.below (Nat.le_refl _) b34
  replace hx3 := hx3.below (Nat.le_refl _) b34
  replace hy3 := hy3.below (Nat.le_refl _) b34
  replace hx4 := hx4.below (Nat.le_refl _) b34
  replace hy4 := hy4.below (Nat.le_refl _) b34
  replace hx6 := hx6.below (Nat.le_refl _) b34
  replace hy6 := hy6.below (Nat.le_refl _) b34
  replace hx7 := hx7.below (Nat.le_refl _) b34
  replace hy7 := hy7.below (Nat.le_refl _) b34
  replace hx8 := hx8.below (Nat.le_refl _) b34
  replace hy8 := hy8.below (Nat.le_refl _) b34
  replace hx9 := hx9.num
  replace hy9 := hy9.num
  have B34 : Below WG.heap.size WG w34 := bstep B33 b34
  clear B33 b34
  replace hHeld := KEEP _ B34
  go_wp2_with fail
  refine hK.out _ _ (AllL.kept hHeld) ?_
  clear hK K
  (try simp only [Act.put, putA, putB, putC])
  clear KEEP khX khY
  obtain ⟨WH, hWH⟩ : ∃ W, W = w34.alloc (.cells #[.bool s0, .slice x0o l0 x0c, .slice y0o L0 y0c, .bool s1, .slice x1o l1 x1c, .slice y1o L1 y1c, .bool s2, .slice x2o l2 x2c, .slice y2o L2 y2c, .bool s3, .slice x3o l3 x3c, .slice y3o L3 y3c, .bool s4, .slice x4o l4 x4c, .slice y4o L4 y4c, .bool s5, .slice x5o l5 x5c, .slice y5o L5 y5c, .bool s6, .slice x6o l6 x6c, .slice y6o L6 y6c, .bool s7, .slice x7o l7 x7c, .slice y7o L7 y7c, .bool s8, .slice x8o l8 x8c, .slice y8o L8 y8c, .bool s9, .slice x9o l9 x9c, .slice y9o L9 y9c] 27) := ⟨_, rfl⟩
  have rH : RowB WH w34.heap.size #[.bool s0, .slice x0o l0 x0c, .slice y0o L0 y0c, .bool s1, .slice x1o l1 x1c, .slice y1o L1 y1c, .bool s2, .slice x2o l2 x2c, .slice y2o L2 y2c, .bool s3, .slice x3o l3 x3c, .slice y3o L3 y3c, .bool s4, .slice x4o l4 x4c, .slice y4o L4 y4c, .bool s5, .slice x5o l5 x5c, .slice y5o L5 y5c, .bool s6, .slice x6o l6 x6c, .slice y6o L6 y6c, .bool s7, .slice x7o l7 x7c, .slice y7o L7 y7c, .bool s8, .slice x8o l8 x8c, .slice y8o L8 y8c, .bool s9, .slice x9o l9 x9c, .slice y9o L9 y9c] := by rw [hWH]; exact heap_alloc_new _ _
  have bH : Below w34.heap.size w34 WH := by rw [hWH]; exact belowA _ _
  refine late_st 24 rfl (fun K hK => ?_)
  go_simp
  refine hK.out _ _ ⟨kpt 24, kpt 2, kpt 5, kpt 5, kpt 8, kpt 8, kpt 11, kpt 11, kpt 24, kpt 15, kpt 15, kpt 17, kpt 20, kpt 20, kpt 23, kpt 23, trivial⟩ ?_
  clear hK K
  (try simp only [Act.put, putA, putB, putC])
  refine late_st 25 rfl (fun K hK => ?_)
  go_simp
  refine hK.out _ _ ⟨kpt 24, kpt 2, kpt 5, kpt 5, kpt 8, kpt 8, kpt 11, kpt 11, kpt 24, kpt 15, kpt 15, kpt 17, kpt 20, kpt 20, kpt 23, kpt 23, trivial⟩ ?_
  clear hK K
  (try simp only [Act.put, putA, putB, putC])
  refine late_done (by kernel_rfl) ?_ _
  rw [← hWH]
  clear hWH hHeld
  obtain ⟨vH, hvH⟩ : ∃ v, v = w34.heap.size := ⟨_, rfl⟩
  rw [← hvH] at rH ⊢
  clear hvH
  have b : Below WG.heap.size WG WH := bstep B34 bH
  replace hx1 := hx1.below (Nat.le_refl _) bH
  replace hy1 := hy1.below (Nat.le_refl _) bH
  replace hx2 := hx2.below (Nat.le_refl _) bH
  replace hy2 := hy2.below (Nat.le_refl _) bH
  replace hx3 := hx3.below (Nat.le_refl _) bH
  replace hy3 := hy3.below (Nat.le_refl _) bH
  replace hx4 := hx4.below (Nat.le_refl _) bH
  replace hy4 := hy4.below (Nat.le_refl _) bH
  replace hx6 := hx6.below (Nat.le_refl _) bH
  replace hy6 := hy6.below (Nat.le_refl _) bH
  replace hx7 := hx7.below (Nat.le_refl _) bH
  replace hy7 := hy7.below (Nat.le_refl _) bH
  replace hx8 := hx8.below (Nat.le_refl _) bH
  replace hy8 := hy8.below (Nat.le_refl _) bH
  replace hx9 := hx9.below (Nat.le_refl _) bH
  replace hy9 := hy9.below (Nat.le_refl _) bH
  clear bH B34
  replace ra := ra.below b
  replace rb := rb.below b
  replace rc := rc.below b
  replace rd := rd.below b
  replace hX := hX.below b
  replace hY := hY.below b
  replace hA := hA.below b
  replace hB := hB.below b
  replace hB0 := Nat.le_trans hB0 b.size
  replace hf0n := hf0n.below (Nat.le_refl _) b
  replace hg0n := hg0n.below (Nat.le_refl _) b
  replace hx0 := hx0.below (Nat.le_refl _) b
  replace hy0 := hy0.below (Nat.le_refl _) b
  replace hf5n := hf5n.below (Nat.le_refl _) b
  replace hg5n := hg5n.below (Nat.le_refl _) b
  replace hx5 := hx5.below (Nat.le_refl _) b
  replace hy5 := hy5.below (Nat.le_refl _) b
  replace HBag := HBag.below b
  replace hf1n := hf1n.below (Nat.le_refl _) b
  replace hg1n := hg1n.below (Nat.le_refl _) b
  replace hf2n := hf2n.below (Nat.le_refl _) b
  replace hg2n := hg2n.below (Nat.le_refl _) b
  replace hf3n := hf3n.below (Nat.le_refl _) b
  replace hg3n := hg3n.below (Nat.le_refl _) b
  replace hf4n := hf4n.below (Nat.le_refl _) b
  replace hg4n := hg4n.below (Nat.le_refl _) b
  replace hf6n := hf6n.below (Nat.le_refl _) b
  replace hg6n := hg6n.below (Nat.le_refl _) b
  replace hf7n := hf7n.below (Nat.le_refl _) b
  replace hg7n := hg7n.below (Nat.le_refl _) b
  replace hf8n := hf8n.below (Nat.le_refl _) b
  replace hg8n := hg8n.below (Nat.le_refl _) b
  replace hf9n := hf9n.below (Nat.le_refl _) b
  replace hg9n := hg9n.below (Nat.le_refl _) b
  replace rG := rG.below b
  replace qa := qa.below b
  replace qb := qb.below b
  replace qu := qu.below b
  replace qv := qv.below b
  replace qn := qn.below b
  replace qm := qm.below b
  replace qd := qd.below b
  replace qo := qo.below b
  replace hb := bstep hb b
  replace hsz := Nat.lt_of_lt_of_le hsz b.size
  clear b
  obtain ⟨cqa0, cqa1, cqa2⟩ := qa.cells
  obtain ⟨cqb0, cqb1, cqb2⟩ := qb.cells
  obtain ⟨cqu0, cqu1, cqu2⟩ := qu.cells
  obtain ⟨cqv0, cqv1, cqv2⟩ := qv.cells
  obtain ⟨cqn0, cqn1, cqn2⟩ := qn.cells
  obtain ⟨cqm0, cqm1, cqm2⟩ := qm.cells
  obtain ⟨cqd0, cqd1, cqd2⟩ := qd.cells
  obtain ⟨cqo0, cqo1, cqo2⟩ := qo.cells
  go_wp2_with fail
  clear cqa0 cqa1 cqa2 cqb0 cqb1 cqb2 cqu0 cqu1 cqu2 cqv0 cqv1 cqv2 cqn0 cqn1 cqn2 cqm0 cqm1 cqm2 cqd0 cqd1 cqd2 cqo0 cqo1 cqo2
  refine (F10 _ hA).mono ?_
  rintro e w35 ⟨f10o, f10c, rfl, hf10, b⟩
  clear F10
  replace HBag := HBag.push hf10 b hB0
  replace hf10 := hf10.num
  replace ra := ra.below b
  replace rb := rb.below b
  replace rc := rc.below b
  replace rd := rd.below b
  replace hX := hX.below b
  replace hY := hY.below b
  replace hA := hA.below b
  replace hB := hB.below b
  replace hB0 := Nat.le_trans hB0 b.size
  replace hf0n := hf0n.below (Nat.le_refl _) b
  replace hg0n := hg0n.below (Nat.le_refl _) b
  replace hx0 := hx0.below (Nat.le_refl _) b
  replace hy0 := hy0.below (Nat.le_refl _) b
  replace hf5n := hf5n.below (Nat.le_refl _) b
  replace hg5n := hg5n.below (Nat.le_refl _) b
  replace hx5 := hx5.below (Nat.le_refl _) b
  replace hy5 := hy5.below (Nat.le_refl _) b
  replace hf1n := hf1n.below (Nat.le_refl _) b
  replace hg1n := hg1n.below (Nat.le_refl _) b
  replace hf2n := hf2n.below (Nat.le_refl _) b
  replace hg2n := hg2n.below (Nat.le_refl _) b
  replace hf3n := hf3n.below (Nat.le_refl _) b
  replace hg3n := hg3n.below (Nat.le_refl _) b
  replace hf4n := hf4n.below (Nat.le_refl _) b
  replace hg4n := hg4n.below (Nat.le_refl _) b
  replace hf6n := hf6n.below (Nat.le_refl _) b
  replace hg6n := hg6n.below (Nat.le_refl _) b
  replace hf7n := hf7n.below (Nat.le_refl _) b
  replace hg7n := hg7n.below (Nat.le_refl _) b
  replace hf8n := hf8n.below (Nat.le_refl _) b
  replace hg8n := hg8n.below (Nat.le_refl _) b
  replace hf9n := hf9n.below (Nat.le_refl _) b
  replace hg9n := hg9n.below (Nat.le_refl _) b
  replace rG := rG.below b
  replace hx1 := hx1.below (Nat.le_refl _) b
  replace hy1 := hy1.below (Nat.le_refl _) b
  replace hx2 := hx2.below (Nat.le_refl _) b
  replace hy2 := hy2.below (Nat.le_refl _) b
  replace hx3 := hx3.below (Nat.le_refl _) b
  replace hy3 := hy3.below (Nat.le_refl _) b
  replace hx4 := hx4.below (Nat.le_refl _) b
  replace hy4 := hy4.below (Nat.le_refl _) b
  replace hx6 := hx6.below (Nat.le_refl _) b
  replace hy6 := hy6.below (Nat.le_refl _) b
  replace hx7 := hx7.below (Nat.le_refl _) b
  replace hy7 := hy7.below (Nat.le_refl _) b
  replace hx8 := hx8.below (Nat.le_refl _) b
  replace hy8 := hy8.below (Nat.le_refl _) b
  replace hx9 := hx9.below (Nat.le_refl _) b
  replace hy9 := hy9.below (Nat.le_refl _) b
  replace rH := rH.below b
  replace qa := qa.below b
  replace qb := qb.below b
  replace qu := qu.below b
  replace qv := qv.below b
  replace qn := qn.below b
  replace qm := qm.below b
  replace qd := qd.below b
  replace qo := qo.below b
  replace hb := bstep hb b
  replace hsz := Nat.lt_of_lt_of_le hsz b.size
  clear b
  have hq0 : ICell (w35.alloc (.cells #[.bool false, .slice none 0 0] 25)) w35.heap.size false (.slice none 0 0) := icell_new _ rfl
  obtain ⟨W36, hW36⟩ : ∃ W, W = w35.alloc (.cells #[.bool s10, .slice f10o l10 f10c] 25) := ⟨_, rfl⟩
  have qi : ICell W36 (w35.heap.size) s10 (.slice f10o l10 f10c) := by rw [hW36]; exact icell_new _ rfl
  have b : Below w35.heap.size w35 W36 := by rw [hW36]; exact belowA _ _
  obtain ⟨z0, z1⟩ := hq0.cells
  have t0 := hq0.thaw 0
  have t1 := hq0.thaw 1
  clear hq0
  replace ra := ra.below b
  replace rb := rb.below b
  replace rc := rc.below b
  replace rd := rd.below b
  replace hX := hX.below b
  replace hY := hY.below b
  replace hA := hA.below b
  replace hB := hB.below b
  replace hB0 := Nat.le_trans hB0 b.size
  replace hf0n := hf0n.below (Nat.le_refl _) b
  replace hg0n := hg0n.below (Nat.le_refl _) b
  replace hx0 := hx0.below (Nat.le_refl _) b
  replace hy0 := hy0.below (Nat.le_refl _) b
  replace hf5n := hf5n.below (Nat.le_refl _) b
  replace hg5n := hg5n.below (Nat.le_refl _) b
  replace hx5 := hx5.below (Nat.le_refl _) b
  replace hy5 := hy5.below (Nat.le_refl _) b
  replace hf1n := hf1n.below (Nat.le_refl _) b
  replace hg1n := hg1n.below (Nat.le_refl _) b
  replace hf2n := hf2n.below (Nat.le_refl _) b
  replace hg2n := hg2n.below (Nat.le_refl _) b
  replace hf3n := hf3n.below (Nat.le_refl _) b
  replace hg3n := hg3n.below (Nat.le_refl _) b
  replace hf4n := hf4n.below (Nat.le_refl _) b
  replace hg4n := hg4n.below (Nat.le_refl _) b
  replace hf6n := hf6n.below (Nat.le_refl _) b
  replace hg6n := hg6n.below (Nat.le_refl _) b
  replace hf7n := hf7n.below (Nat.le_refl _) b
  replace hg7n := hg7n.below (Nat.le_refl _) b
  replace hf8n := hf8n.below (Nat.le_refl _) b
  replace hg8n := hg8n.below (Nat.le_refl _) b
  replace hf9n := hf9n.below (Nat.le_refl _) b
  replace hg9n := hg9n.below (Nat.le_refl _) b
  replace rG := rG.below b
  replace hx1 := hx1.below (Nat.le_refl _) b
  replace hy1 := hy1.below (Nat.le_refl _) b
  replace hx2 := hx2.below (Nat.le_refl _) b
  replace hy2 := hy2.below (Nat.le_refl _) b
  replace hx3 := hx3.below (Nat.le_refl _) b
  replace hy3 := hy3.below (Nat.le_refl _) b
  replace hx4 := hx4.below (Nat.le_refl _) b
  replace hy4 := hy4.below (Nat.le_refl _) b
  replace hx6 := hx6.below (Nat.le_refl _) b
  replace hy6 := hy6.below (Nat.le_refl _) b
  replace hx7 := hx7.below (Nat.le_refl _) b
  replace hy7 := hy7.below (Nat.le_refl _) b
  replace hx8 := hx8.below (Nat.le_refl _) b
  replace hy8 := hy8.below (Nat.le_refl _) b
  replace hx9 := hx9.below (Nat.le_refl _) b
  replace hy9 := hy9.below (Nat.le_refl _) b
  replace rH := rH.below b
  replace HBag := HBag.below b
  replace hf10 := hf10.below (Nat.le_refl _) b
  replace qa := qa.below b
  replace qb := qb.below b
  replace qu := qu.below b
  replace qv := qv.below b
  replace qn := qn.below b
  replace qm := qm.below b
  replace qd := qd.below b
  replace qo := qo.below b
  replace hb := bstep hb b
  replace hsz := Nat.lt_of_lt_of_le hsz b.size
  clear b
  have rqa0 : (w35.alloc (.cells #[.bool s10, .slice f10o l10 f10c] 25)).cell? ⟨g, 0, none⟩ = some (.bool na) := by rw [← hW36]; exact qa.cells.1
  have rqa1 : (w35.alloc (.cells #[.bool s10, .slice f10o l10 f10c] 25)).cell? ⟨g, 1, none⟩ = some (.slice ao al2 ac) := by rw [← hW36]; exact qa.cells.2.1
  have rqa2 : (w35.alloc (.cells #[.bool s10, .slice f10o l10 f10c] 25)).cell? ⟨g, 2, none⟩ = some (.slice aO aL2 aC) := by rw [← hW36]; exact qa.cells.2.2
  have rqb0 : (w35.alloc (.cells #[.bool s10, .slice f10o l10 f10c] 25)).cell? ⟨g + 1, 0, none⟩ = some (.bool nb) := by rw [← hW36]; exact qb.cells.1
  have rqb1 : (w35.alloc (.cells #[.bool s10, .slice f10o l10 f10c] 25)).cell? ⟨g + 1, 1, none⟩ = some (.slice bo bl2 bc) := by rw [← hW36]; exact qb.cells.2.1
  have rqb2 : (w35.alloc (.cells #[.bool s10, .slice f10o l10 f10c] 25)).cell? ⟨g + 1, 2, none⟩ = some (.slice bO bL2 bC) := by rw [← hW36]; exact qb.cells.2.2
  have rqu0 : (w35.alloc (.cells #[.bool s10, .slice f10o l10 f10c] 25)).cell? ⟨v8, 0, none⟩ = some (.bool na) := by rw [← hW36]; exact qu.cells.1
  have rqu1 : (w35.alloc (.cells #[.bool s10, .slice f10o l10 f10c] 25)).cell? ⟨v8, 1, none⟩ = some (.slice uo ul uc) := by rw [← hW36]; exact qu.cells.2.1
  have rqu2 : (w35.alloc (.cells #[.bool s10, .slice f10o l10 f10c] 25)).cell? ⟨v8, 2, none⟩ = some (.slice vo vl vc) := by rw [← hW36]; exact qu.cells.2.2
  have rqv0 : (w35.alloc (.cells #[.bool s10, .slice f10o l10 f10c] 25)).cell? ⟨v10, 0, none⟩ = some (.bool nb) := by rw [← hW36]; exact qv.cells.1
  have rqv1 : (w35.alloc (.cells #[.bool s10, .slice f10o l10 f10c] 25)).cell? ⟨v10, 1, none⟩ = some (.slice eo el ec) := by rw [← hW36]; exact qv.cells.2.1
  have rqv2 : (w35.alloc (.cells #[.bool s10, .slice f10o l10 f10c] 25)).cell? ⟨v10, 2, none⟩ = some (.slice fo fl fc) := by rw [← hW36]; exact qv.cells.2.2
  have rqn0 : (w35.alloc (.cells #[.bool s10, .slice f10o l10 f10c] 25)).cell? ⟨v12, 0, none⟩ = some (.bool s0) := by rw [← hW36]; exact qn.cells.1
  have rqn1 : (w35.alloc (.cells #[.bool s10, .slice f10o l10 f10c] 25)).cell? ⟨v12, 1, none⟩ = some (.slice f0o l0 f0c) := by rw [← hW36]; exact qn.cells.2.1
  have rqn2 : (w35.alloc (.cells #[.bool s10, .slice f10o l10 f10c] 25)).cell? ⟨v12, 2, none⟩ = some (.slice g0o L0 g0c) := by rw [← hW36]; exact qn.cells.2.2
  have rqm0 : (w35.alloc (.cells #[.bool s10, .slice f10o l10 f10c] 25)).cell? ⟨v14, 0, none⟩ = some (.bool s0) := by rw [← hW36]; exact qm.cells.1
  have rqm1 : (w35.alloc (.cells #[.bool s10, .slice f10o l10 f10c] 25)).cell? ⟨v14, 1, none⟩ = some (.slice x0o l0 x0c) := by rw [← hW36]; exact qm.cells.2.1
  have rqm2 : (w35.alloc (.cells #[.bool s10, .slice f10o l10 f10c] 25)).cell? ⟨v14, 2, none⟩ = some (.slice y0o L0 y0c) := by rw [← hW36]; exact qm.cells.2.2
  have rqd0 : (w35.alloc (.cells #[.bool s10, .slice f10o l10 f10c] 25)).cell? ⟨v16, 0, none⟩ = some (.bool s5) := by rw [← hW36]; exact qd.cells.1
  have rqd1 : (w35.alloc (.cells #[.bool s10, .slice f10o l10 f10c] 25)).cell? ⟨v16, 1, none⟩ = some (.slice f5o l5 f5c) := by rw [← hW36]; exact qd.cells.2.1
  have rqd2 : (w35.alloc (.cells #[.bool s10, .slice f10o l10 f10c] 25)).cell? ⟨v16, 2, none⟩ = some (.slice g5o L5 g5c) := by rw [← hW36]; exact qd.cells.2.2
  have rqo0 : (w35.alloc (.cells #[.bool s10, .slice f10o l10 f10c] 25)).cell? ⟨v18, 0, none⟩ = some (.bool s5) := by rw [← hW36]; exact qo.cells.1
  have rqo1 : (w35.alloc (.cells #[.bool s10, .slice f10o l10 f10c] 25)).cell? ⟨v18, 1, none⟩ = some (.slice x5o l5 x5c) := by rw [← hW36]; exact qo.cells.2.1
  have rqo2 : (w35.alloc (.cells #[.bool s10, .slice f10o l10 f10c] 25)).cell? ⟨v18, 2, none⟩ = some (.slice y5o L5 y5c) := by rw [← hW36]; exact qo.cells.2.2
  have rqi0 : (w35.alloc (.cells #[.bool s10, .slice f10o l10 f10c] 25)).cell? ⟨w35.heap.size, 0, none⟩ = some (.bool s10) := by rw [← hW36]; exact qi.cells.1
  have rqi1 : (w35.alloc (.cells #[.bool s10, .slice f10o l10 f10c] 25)).cell? ⟨w35.heap.size, 1, none⟩ = some (.slice f10o l10 f10c) := by rw [← hW36]; exact qi.cells.2
  obtain ⟨v36, hv36⟩ : ∃ v, v = w35.heap.size := ⟨_, rfl⟩
  rw [← hv36] at qi
  have HW36 : Hid (W36 = w35.alloc (.cells #[.bool s10, .slice f10o l10 f10c] 25)) := hW36
  have Hv36 : Hid (v36 = w35.heap.size) := hv36
  clear hW36 hv36
  go_wp2_with fail
  rw [← HW36.out, ← Hv36.out]
  clear HW36 Hv36 z0 t0 z1 t1 rqa0 rqa1 rqa2 rqb0 rqb1 rqb2 rqu0 rqu1 rqu2 rqv0 rqv1 rqv2 rqn0 rqn1 rqn2 rqm0 rqm1 rqm2 rqd0 rqd1 rqd2 rqo0 rqo1 rqo2 rqi0 rqi1 
  have KEEP : ∀ u, Below W36.heap.size W36 u → AllL u [(0, fun w' => w'.cell? ⟨v36, 0, none⟩ = some (.bool s10) ∧ w'.cell? ⟨v36, 1, none⟩ = some (.slice f10o l10 f10c)), (1, fun w' => w'.cell? ⟨g, 0, none⟩ = some (.bool na) ∧ w'.cell? ⟨g, 1, none⟩ = some (.slice ao al2 ac) ∧ w'.cell? ⟨g, 2, none⟩ = some (.slice aO aL2 aC))] := fun u B => ⟨(qi.below B).cells, (qa.below B).cells, trivial⟩
  refine region_late [(0, fun w' => w'.cell? ⟨v36, 0, none⟩ = some (.bool s10) ∧ w'.cell? ⟨v36, 1, none⟩ = some (.slice f10o l10 f10c)), (1, fun w' => w'.cell? ⟨g, 0, none⟩ = some (.bool na) ∧ w'.cell? ⟨g, 1, none⟩ = some (.slice ao al2 ac) ∧ w'.cell? ⟨g, 2, none⟩ = some (.slice aO aL2 aC))] (by kernel_rfl) ?_
  have BZ : Below W36.heap.size W36 W36.drew := below_drew' _
  obtain ⟨wz, hwz⟩ : ∃ u, u = W36.drew := ⟨_, rfl⟩
  rw [← hwz] at BZ ⊢
  clear hwz
  have hHeld := KEEP _ BZ
  have khX := hX.below BZ
  have khf10 := hf10.below (Nat.le_refl _) BZ
  refine late_tk 0 (v := .agg #[.bool s10, .slice f10o l10 f10c]) rfl (List.Mem.head _) (Or.inl ⟨by rfl, ?_⟩) hHeld ?_
  · (intro u hu; (try dsimp only at hu); go_split_ands; go_simp)
  (try simp only [Act.put, putA, putB, putC])
  refine late_tk 1 (v := .agg #[.bool na, .slice ao al2 ac, .slice aO aL2 aC]) rfl (List.Mem.tail _ (List.Mem.head _)) (Or.inl ⟨by rfl, ?_⟩) hHeld ?_
  · (intro u hu; (try dsimp only at hu); go_split_ands; go_simp)
  (try simp only [Act.put, putA, putB, putC])
  refine late_st 2 rfl (fun K hK => ?_)
  go_simp
  refine (R10 _ khX).mono ?_
  rintro e w37 ⟨x10o, x10c, rfl, hx10, b37⟩
  clear R10
  replace hx10 := hx10.num
  replace khX := khX.below b37
  replace khf10 := khf10.below (Nat.le_refl _) b37
  have B37 : Below W36.heap.size W36 w37 := bstep BZ b37
  clear BZ b37
  replace hHeld := KEEP _ B37
  go_wp2_with fail
  refine hK.out _ _ (AllL.kept hHeld) ?_
  clear hK K
  (try simp only [Act.put, putA, putB, putC])
  refine late_st 3 rfl (fun K hK => ?_)
  go_simp
  refine (same02g s10 f10o x10o l10 f10c x10c m10 _ khf10 hx10).mono ?_
  rintro e w38 ⟨rfl, b38⟩
  clear hx10
  replace khX := khX.below b38
  replace khf10 := khf10.below (Nat.le_refl _) b38
  have B38 : Below W36.heap.size W36 w38 := bstep B37 b38
  clear B37 b38
  replace hHeld := KEEP _ B38
  go_wp2_with fail
  refine hK.out _ _ (AllL.kept hHeld) ?_
  clear hK K
  (try simp only [Act.put, putA, putB, putC])
  refine late_st 4 rfl (fun K hK => ?_)
  go_simp
  refine hK.out _ _ ⟨kpt 3, kpt 2, trivial⟩ ?_
  clear hK K
  (try simp only [Act.put, putA, putB, putC])
  refine late_done (by kernel_rfl) ?_ _
  clear KEEP hHeld khX khf10
  have b := B38
  clear B38
  replace ra := ra.below b
  replace rb := rb.below b
  replace rc := rc.below b
  replace rd := rd.below b
  replace hX := hX.below b
  replace hY := hY.below b
  replace hA := hA.below b
  replace hB := hB.below b
  replace hB0 := Nat.le_trans hB0 b.size
  replace hf0n := hf0n.below (Nat.le_refl _) b
  replace hg0n := hg0n.below (Nat.le_refl _) b
  replace hx0 := hx0.below (Nat.le_refl _) b
  replace hy0 := hy0.below (Nat.le_refl _) b
  replace hf5n := hf5n.below (Nat.le_refl _) b
  replace hg5n := hg5n.below (Nat.le_refl _) b
  replace hx5 := hx5.below (Nat.le_refl _) b
  replace hy5 := hy5.below (Nat.le_refl _) b
  replace hf1n := hf1n.below (Nat.le_refl _) b
  replace hg1n := hg1n.below (Nat.le_refl _) b
  replace hf2n := hf2n.below (Nat.le_refl _) b
  replace hg2n := hg2n.below (Nat.le_refl _) b
  replace hf3n := hf3n.below (Nat.le_refl _) b
  replace hg3n := hg3n.below (Nat.le_refl _) b
  replace hf4n := hf4n.below (Nat.le_refl _) b
  replace hg4n := hg4n.below (Nat.le_refl _) b
  replace hf6n := hf6n.below (Nat.le_refl _) b
  replace hg6n := hg6n.below (Nat.le_refl _) b
  replace hf7n := hf7n.below (Nat.le_refl _) b
  replace hg7n := hg7n.below (Nat.le_refl _) b
  replace hf8n := hf8n.below (Nat.le_refl _) b
  replace hg8n := hg8n.below (Nat.le_refl _) b
  replace hf9n := hf9n.below (Nat.le_refl _) b
  replace hg9n := hg9n.below (Nat.le_refl _) b
  replace rG := rG.below b
  replace hx1 := hx1.below (Nat.le_refl _) b
  replace hy1 := hy1.below (Nat.le_refl _) b
  replace hx2 := hx2.below (Nat.le_refl _) b
  replace hy2 := hy2.below (Nat.le_refl _) b
  replace hx3 := hx3.below (Nat.le_refl _) b
  replace hy3 := hy3.below (Nat.le_refl _) b
  replace hx4 := hx4.below (Nat.le_refl _) b
  replace hy4 := hy4.below (Nat.le_refl _) b
  replace hx6 := hx6.below (Nat.le_refl _) b
  replace hy6 := hy6.below (Nat.le_refl _) b
  replace hx7 := hx7.below (Nat.le_refl _) b
  replace hy7 := hy7.below (Nat.le_refl _) b
  replace hx8 := hx8.below (Nat.le_refl _) b
  replace hy8 := hy8.below (Nat.le_refl _) b
  replace hx9 := hx9.below (Nat.le_refl _) b
  replace hy9 := hy9.below (Nat.le_refl _) b
  replace rH := rH.below b
  replace HBag := HBag.below b
  replace hf10 := hf10.below (Nat.le_refl _) b
  replace qa := qa.below b
  replace qb := qb.below b
  replace qu := qu.below b
  replace qv := qv.below b
  replace qn := qn.below b
  replace qm := qm.below b
  replace qd := qd.below b
  replace qo := qo.below b
  replace qi := qi.below b
  replace hb := bstep hb b
  replace hsz := Nat.lt_of_lt_of_le hsz b.size
  clear b
  go_wp2_with fail
  have SAME : ∀ i, i < 10 → SameAt w38 vG vH i := by
    intro i hi
    match i, hi with
    | 0, _ => exact ⟨s0, f0o, x0o, g0o, y0o, l0, f0c, x0c, L0, g0c, y0c, m0, d0, ⟨rG.cell rfl, rG.cell rfl, rG.cell rfl⟩, ⟨rH.cell rfl, rH.cell rfl, rH.cell rfl⟩, hf0n, hx0, hg0n, hy0⟩
    | 1, _ => exact ⟨s1, f1o, x1o, g1o, y1o, l1, f1c, x1c, L1, g1c, y1c, m1, d1, ⟨rG.cell rfl, rG.cell rfl, rG.cell rfl⟩, ⟨rH.cell rfl, rH.cell rfl, rH.cell rfl⟩, hf1n, hx1, hg1n, hy1⟩
    | 2, _ => exact ⟨s2, f2o, x2o, g2o, y2o, l2, f2c, x2c, L2, g2c, y2c, m2, d2, ⟨rG.cell rfl, rG.cell rfl, rG.cell rfl⟩, ⟨rH.cell rfl, rH.cell rfl, rH.cell rfl⟩, hf2n, hx2, hg2n, hy2⟩
    | 3, _ => exact ⟨s3, f3o, x3o, g3o, y3o, l3, f3c, x3c, L3, g3c, y3c, m3, d3, ⟨rG.cell rfl, rG.cell rfl, rG.cell rfl⟩, ⟨rH.cell rfl, rH.cell rfl, rH.cell rfl⟩, hf3n, hx3, hg3n, hy3⟩
    | 4, _ => exact ⟨s4, f4o, x4o, g4o, y4o, l4, f4c, x4c, L4, g4c, y4c, m4, d4, ⟨rG.cell rfl, rG.cell rfl, rG.cell rfl⟩, ⟨rH.cell rfl, rH.cell rfl, rH.cell rfl⟩, hf4n, hx4, hg4n, hy4⟩
    | 5, _ => exact ⟨s5, f5o, x5o, g5o, y5o, l5, f5c, x5c, L5, g5c, y5c, m5, d5, ⟨rG.cell rfl, rG.cell rfl, rG.cell rfl⟩, ⟨rH.cell rfl, rH.cell rfl, rH.cell rfl⟩, hf5n, hx5, hg5n, hy5⟩
    | 6, _ => exact ⟨s6, f6o, x6o, g6o, y6o, l6, f6c, x6c, L6, g6c, y6c, m6, d6, ⟨rG.cell rfl, rG.cell rfl, rG.cell rfl⟩, ⟨rH.cell rfl, rH.cell rfl, rH.cell rfl⟩, hf6n, hx6, hg6n, hy6⟩
    | 7, _ => exact ⟨s7, f7o, x7o, g7o, y7o, l7, f7c, x7c, L7, g7c, y7c, m7, d7, ⟨rG.cell rfl, rG.cell rfl, rG.cell rfl⟩, ⟨rH.cell rfl, rH.cell rfl, rH.cell rfl⟩, hf7n, hx7, hg7n, hy7⟩
    | 8, _ => exact ⟨s8, f8o, x8o, g8o, y8o, l8, f8c, x8c, L8, g8c, y8c, m8, d8, ⟨rG.cell rfl, rG.cell rfl, rG.cell rfl⟩, ⟨rH.cell rfl, rH.cell rfl, rH.cell rfl⟩, hf8n, hx8, hg8n, hy8⟩
    | 9, _ => exact ⟨s9, f9o, x9o, g9o, y9o, l9, f9c, x9c, L9, g9c, y9c, m9, d9, ⟨rG.cell rfl, rG.cell rfl, rG.cell rfl⟩, ⟨rH.cell rfl, rH.cell rfl, rH.cell rfl⟩, hf9n, hx9, hg9n, hy9⟩
  have KEEP : ∀ u, Below w38.heap.size w38 u → AllL u [(23, fun w' => w'.cell? ⟨v8, 0, none⟩ = some (.bool na) ∧ w'.cell? ⟨v8, 1, none⟩ = some (.slice uo ul uc) ∧ w'.cell? ⟨v8, 2, none⟩ = some (.slice vo vl vc)), (24, fun w' => w'.cell? ⟨v10, 0, none⟩ = some (.bool nb) ∧ w'.cell? ⟨v10, 1, none⟩ = some (.slice eo el ec) ∧ w'.cell? ⟨v10, 2, none⟩ = some (.slice fo fl fc)), (26, fun w' => w'.cell? ⟨g, 0, none⟩ = some (.bool na) ∧ w'.cell? ⟨g, 1, none⟩ = some (.slice ao al2 ac) ∧ w'.cell? ⟨g, 2, none⟩ = some (.slice aO aL2 aC)), (27, fun w' => w'.cell? ⟨g + 1, 0, none⟩ = some (.bool nb) ∧ w'.cell? ⟨g + 1, 1, none⟩ = some (.slice bo bl2 bc) ∧ w'.cell? ⟨g + 1, 2, none⟩ = some (.slice bO bL2 bC)), (32, fun w' => w'.cell? ⟨v10, 0, none⟩ = some (.bool nb) ∧ w'.cell? ⟨v10, 1, none⟩ = some (.slice eo el ec) ∧ w'.cell? ⟨v10, 2, none⟩ = some (.slice fo fl fc)), (33, fun w' => w'.cell? ⟨v8, 0, none⟩ = some (.bool na) ∧ w'.cell? ⟨v8, 1, none⟩ = some (.slice uo ul uc) ∧ w'.cell? ⟨v8, 2, none⟩ = some (.slice vo vl vc)), (35, fun w' => w'.cell? ⟨g + 1, 0, none⟩ = some (.bool nb) ∧ w'.cell? ⟨g + 1, 1, none⟩ = some (.slice bo bl2 bc) ∧ w'.cell? ⟨g + 1, 2, none⟩ = some (.slice bO bL2 bC)), (36, fun w' => w'.cell? ⟨g, 0, none⟩ = some (.bool na) ∧ w'.cell? ⟨g, 1, none⟩ = some (.slice ao al2 ac) ∧ w'.cell? ⟨g, 2, none⟩ = some (.slice aO aL2 aC)), (41, fun w' => w'.cell? ⟨v8, 0, none⟩ = some (.bool na) ∧ w'.cell? ⟨v8, 1, none⟩ = some (.slice uo ul uc) ∧ w'.cell? ⟨v8, 2, none⟩ = some (.slice vo vl vc)), (43, fun w' => w'.cell? ⟨g, 0, none⟩ = some (.bool na) ∧ w'.cell? ⟨g, 1, none⟩ = some (.slice ao al2 ac) ∧ w'.cell? ⟨g, 2, none⟩ = some (.slice aO aL2 aC))] := fun u B => ⟨(qu.below B).cells, (qv.below B).cells, (qa.below B).cells, (qb.below B).cells, (qv.below B).cells, (qu.below B).cells, (qb.below B).cells, (qa.below B).cells, (qu.below B).cells, (qa.below B).cells, trivial⟩
  refine region_late [(23, fun w' => w'.cell? ⟨v8, 0, none⟩ = some (.bool na) ∧ w'.cell? ⟨v8, 1, none⟩ = some (.slice uo ul uc) ∧ w'.cell? ⟨v8, 2, none⟩ = some (.slice vo vl vc)), (24, fun w' => w'.cell? ⟨v10, 0, none⟩ = some (.bool nb) ∧ w'.cell? ⟨v10, 1, none⟩ = some (.slice eo el ec) ∧ w'.cell? ⟨v10, 2, none⟩ = some (.slice fo fl fc)), (26, fun w' => w'.cell? ⟨g, 0, none⟩ = some (.bool na) ∧ w'.cell? ⟨g, 1, none⟩ = some (.slice ao al2 ac) ∧ w'.cell? ⟨g, 2, none⟩ = some (.slice aO aL2 aC)), (27, fun w' => w'.cell? ⟨g + 1, 0, none⟩ = some (.bool nb) ∧ w'.cell? ⟨g + 1, 1, none⟩ = some (.slice bo bl2 bc) ∧ w'.cell? ⟨g + 1, 2, none⟩ = some (.slice bO bL2 bC)), (32, fun w' => w'.cell? ⟨v10, 0, none⟩ = some (.bool nb) ∧ w'.cell? ⟨v10, 1, none⟩ = some (.slice eo el ec) ∧ w'.cell? ⟨v10, 2, none⟩ = some (.slice fo fl fc)), (33, fun w' => w'.cell? ⟨v8, 0, none⟩ = some (.bool na) ∧ w'.cell? ⟨v8, 1, none⟩ = some (.slice uo ul uc) ∧ w'.cell? ⟨v8, 2, none⟩ = some (.slice vo vl vc)), (35, fun w' => w'.cell? ⟨g + 1, 0, none⟩ = some (.bool nb) ∧ w'.cell? ⟨g + 1, 1, none⟩ = some (.slice bo bl2 bc) ∧ w'.cell? ⟨g + 1, 2, none⟩ = some (.slice bO bL2 bC)), (36, fun w' => w'.cell? ⟨g, 0, none⟩ = some (.bool na) ∧ w'.cell? ⟨g, 1, none⟩ = some (.slice ao al2 ac) ∧ w'.cell? ⟨g, 2, none⟩ = some (.slice aO aL2 aC)), (41, fun w' => w'.cell? ⟨v8, 0, none⟩ = some (.bool na) ∧ w'.cell? ⟨v8, 1, none⟩ = some (.slice uo ul uc) ∧ w'.cell? ⟨v8, 2, none⟩ = some (.slice vo vl vc)), (43, fun w' => w'.cell? ⟨g, 0, none⟩ = some (.bool na) ∧ w'.cell? ⟨g, 1, none⟩ = some (.slice ao al2 ac) ∧ w'.cell? ⟨g, 2, none⟩ = some (.slice aO aL2 aC))] (by kernel_rfl) ?_
  have BZ : Below w38.heap.size w38 w38.drew := below_drew' _
  obtain ⟨wz, hwz⟩ : ∃ u, u = w38.drew := ⟨_, rfl⟩
  rw [← hwz] at BZ ⊢
  clear hwz
  have hHeld := KEEP _ BZ
  have khX := hX.below BZ
  have khY := hY.below BZ
  have khA := hA.below BZ
  have khB := hB.below BZ
  refine late_fr 0 (v := .bool true) rfl (Or.inl ⟨by rfl, ?_⟩) hHeld ?_
  · (intro u _; go_simp)
  (try simp only [Act.put, putA, putB, putC])
  refine late_fr 1 (v := .bool false) rfl (Or.inl ⟨by rfl, ?_⟩) hHeld ?_
  · (intro u _; go_simp)
  (try simp only [Act.put, putA, putB, putC])
  refine late_fr 2 (v := .bool false) rfl (Or.inl ⟨by rfl, ?_⟩) hHeld ?_
  · (intro u _; go_simp)
  (try simp only [Act.put, putA, putB, putC])
  refine late_fr 3 (v := .int .i64 e0) rfl (Or.inl ⟨by rfl, ?_⟩) hHeld ?_
  · (intro u _; go_simp)
  (try simp only [Act.put, putA, putB, putC])
  refine late_fr 4 (v := .int .i64 e0) rfl (Or.inl ⟨by rfl, ?_⟩) hHeld ?_
  · (intro u _; go_simp)
  (try simp only [Act.put, putA, putB, putC])
  refine late_fr 5 (v := .bool false) rfl (Or.inl ⟨by rfl, ?_⟩) hHeld ?_
  · (intro u _; go_simp)
  (try simp only [Act.put, putA, putB, putC])
  refine late_fr 6 (v := .bool false) rfl (Or.inl ⟨by rfl, ?_⟩) hHeld ?_
  · (intro u _; go_simp)
  (try simp only [Act.put, putA, putB, putC])
  refine late_fr 7 (v := .bool false) rfl (Or.inl ⟨by rfl, ?_⟩) hHeld ?_
  · (intro u _; go_simp)
  (try simp only [Act.put, putA, putB, putC])
  refine late_fr 8 (v := .int .i64 e5) rfl (Or.inl ⟨by rfl, ?_⟩) hHeld ?_
  · (intro u _; go_simp)
  (try simp only [Act.put, putA, putB, putC])
  refine late_fr 9 (v := .int .i64 e5) rfl (Or.inl ⟨by rfl, ?_⟩) hHeld ?_
  · (intro u _; go_simp)
  (try simp only [Act.put, putA, putB, putC])
  refine late_fr 10 (v := .bool false) rfl (Or.inl ⟨by rfl, ?_⟩) hHeld ?_
  · (intro u _; go_simp)
  (try simp only [Act.put, putA, putB, putC])
  refine late_fr 11 (v := .bool false) rfl (Or.inl ⟨by rfl, ?_⟩) hHeld ?_
  · (intro u _; go_simp)
  (try simp only [Act.put, putA, putB, putC])
  refine late_fr 12 (v := .bool false) rfl (Or.inl ⟨by rfl, ?_⟩) hHeld ?_
  · (intro u _; go_simp)
  (try simp only [Act.put, putA, putB, putC])
  refine late_fr 13 (v := .bool true) rfl (Or.inl ⟨by rfl, ?_⟩) hHeld ?_
  · (intro u _; go_simp)
  (try simp only [Act.put, putA, putB, putC])
  refine late_fr 14 (v := .bool false) rfl (Or.inl ⟨by rfl, ?_⟩) hHeld ?_
  · (intro u _; go_simp)
  (try simp only [Act.put, putA, putB, putC])
  refine late_fr 15 (v := .bool false) rfl (Or.inl ⟨by rfl, ?_⟩) hHeld ?_
  · (intro u _; go_simp)
  (try simp only [Act.put, putA, putB, putC])
  refine late_fr 16 (v := .bool false) rfl (Or.inl ⟨by rfl, ?_⟩) hHeld ?_
  · (intro u _; go_simp)
  (try simp only [Act.put, putA, putB, putC])
  refine late_fr 17 (v := .slice (some ⟨vG, 0, none⟩) 10 10) rfl (Or.inl ⟨by rfl, ?_⟩) hHeld ?_
  · (intro u _; go_simp)
  (try simp only [Act.put, putA, putB, putC])
  refine late_fr 18 (v := .slice (some ⟨vH, 0, none⟩) 10 10) rfl (Or.inl ⟨by rfl, ?_⟩) hHeld ?_
  · (intro u _; go_simp)
  (try simp only [Act.put, putA, putB, putC])
  refine late_st 19 rfl (fun K hK => ?_)
  go_simp
  refine (sameList3 vG vH 10 10 10 _ (by decide) (fun i hi => (SAME i hi).below BZ)).mono ?_
  rintro e w39 ⟨rfl, b39⟩
  clear SAME
  replace khX := khX.below b39
  replace khY := khY.below b39
  replace khA := khA.below b39
  replace khB := khB.below b39
  have B39 : Below w38.heap.size w38 w39 := bstep BZ b39
  clear BZ b39
  replace hHeld := KEEP _ B39
  go_wp2_with fail
  refine hK.out _ _ (AllL.kept hHeld) ?_
  clear hK K
  (try simp only [Act.put, putA, putB, putC])
  refine late_fr 20 (v := .bool false) rfl (Or.inl ⟨by rfl, ?_⟩) hHeld ?_
  · (intro u _; go_simp)
  (try simp only [Act.put, putA, putB, putC])
  refine late_fr 21 (v := .bool false) rfl (Or.inl ⟨by rfl, ?_⟩) hHeld ?_
  · (intro u _; go_simp)
  (try simp only [Act.put, putA, putB, putC])
  refine late_fr 22 (v := .bool false) rfl (Or.inl ⟨by rfl, ?_⟩) hHeld ?_
  · (intro u _; go_simp)
  (try simp only [Act.put, putA, putB, putC])
  refine late_tk 23 (v := .agg #[.bool na, .slice uo ul uc, .slice vo vl vc]) rfl (List.Mem.head _) (Or.inl ⟨by rfl, ?_⟩) hHeld ?_
  · (intro u hu; (try dsimp only at hu); go_split_ands; go_simp)
  (try simp only [Act.put, putA, putB, putC])
  refine late_tk 24 (v := .agg #[.bool nb, .slice eo el ec, .slice fo fl fc]) rfl (List.Mem.tail _ (List.Mem.head _)) (Or.inl ⟨by rfl, ?_⟩) hHeld ?_
  · (intro u hu; (try dsimp only at hu); go_split_ands; go_simp)
  (try simp only [Act.put, putA, putB, putC])
  refine late_tk 26 (v := .agg #[.bool na, .slice ao al2 ac, .slice aO aL2 aC]) rfl (List.Mem.tail _ (List.Mem.tail _ (List.Mem.head _))) (Or.inl ⟨by rfl, ?_⟩) hHeld ?_
  · (intro u hu; (try dsimp only at hu); go_split_ands; go_simp)
  (try simp only [Act.put, putA, putB, putC])
  refine late_tk 27 (v := .agg #[.bool nb, .slice bo bl2 bc, .slice bO bL2 bC]) rfl (List.Mem.tail _ (List.Mem.tail _ (List.Mem.tail _ (List.Mem.head _)))) (Or.inl ⟨by rfl, ?_⟩) hHeld ?_
  · (intro u hu; (try dsimp only at hu); go_split_ands; go_simp)
  (try simp only [Act.put, putA, putB, putC])
  refine late_st 25 rfl (fun K hK => ?_)
  go_simp
  refine (F11 _ khA khB).mono ?_
  rintro e w40 ⟨rfl, b40⟩
  clear F11
  replace khX := khX.below b40
  replace khY := khY.below b40
  replace khA := khA.below b40
  replace khB := khB.below b40
  have B40 : Below w38.heap.size w38 w40 := bstep B39 b40
  clear B39 b40
  replace hHeld := KEEP _ B40
  go_wp2_with fail
  refine hK.out _ _ (AllL.kept hHeld) ?_
  clear hK K
  (try simp only [Act.put, putA, putB, putC])
  refine late_st 28 rfl (fun K hK => ?_)
  go_simp
  refine (R11 _ khX khY).mono ?_
  rintro e w41 ⟨rfl, b41⟩
  clear R11
  replace khX := khX.below b41
  replace khY := khY.below b41
  replace khA := khA.below b41
  replace khB := khB.below b41
  have B41 : Below w38.heap.size w38 w41 := bstep B40 b41
  clear B40 b41
  replace hHeld := KEEP _ B41
  go_wp2_with fail
  refine hK.out _ _ (AllL.kept hHeld) ?_
  clear hK K
  (try simp only [Act.put, putA, putB, putC])
  refine late_fr 29 (v := .bool false) rfl (Or.inl ⟨by rfl, ?_⟩) hHeld ?_
  · (intro u _; go_simp)
  (try simp only [Act.put, putA, putB, putC])
  refine late_fr 30 (v := .bool false) rfl (Or.inl ⟨by rfl, ?_⟩) hHeld ?_
  · (intro u _; go_simp)
  (try simp only [Act.put, putA, putB, putC])
  refine late_fr 31 (v := .bool false) rfl (Or.inl ⟨by rfl, ?_⟩) hHeld ?_
  · (intro u _; go_simp)
  (try simp only [Act.put, putA, putB, putC])
  refine late_tk 32 (v := .agg #[.bool nb, .slice eo el ec, .slice fo fl fc]) rfl (List.Mem.tail _ (List.Mem.tail _ (List.Mem.tail _ (List.Mem.tail _ (List.Mem.head _))))) (Or.inl ⟨by rfl, ?_⟩) hHeld ?_
  · (intro u hu; (try dsimp only at hu); go_split_ands; go_simp)
  (try simp only [Act.put, putA, putB, putC])
  refine late_tk 33 (v := .agg #[.bool na, .slice uo ul uc, .slice vo vl vc]) rfl (List.Mem.tail _ (List.Mem.tail _ (List.Mem.tail _ (List.Mem.tail _ (List.Mem.tail _ (List.Mem.head _)))))) (Or.inl ⟨by rfl, ?_⟩) hHeld ?_
  · (intro u hu; (try dsimp only at hu); go_split_ands; go_simp)
  (try simp only [Act.put, putA, putB, putC])
  refine late_tk 35 (v := .agg #[.bool nb, .slice bo bl2 bc, .slice bO bL2 bC]) rfl (List.Mem.tail _ (List.Mem.tail _ (List.Mem.tail _ (List.Mem.tail _ (List.Mem.tail _ (List.Mem.tail _ (List.Mem.head _))))))) (Or.inl ⟨by rfl, ?_⟩) hHeld ?_
  · (intro u hu; (try dsimp only at hu); go_split_ands; go_simp)
  (try simp only [Act.put, putA, putB, putC])
  refine late_tk 36 (v := .agg #[.bool na, .slice ao al2 ac, .slice aO aL2 aC]) rfl (List.Mem.tail _ (List.Mem.tail _ (List.Mem.tail _ (List.Mem.tail _ (List.Mem.tail _ (List.Mem.tail _ (List.Mem.tail _ (List.Mem.head _)))))))) (Or.inl ⟨by rfl, ?_⟩) hHeld ?_
  · (intro u hu; (try dsimp only at hu); go_split_ands; go_simp)
  (try simp only [Act.put, putA, putB, putC])
  refine late_st 34 rfl (fun K hK => ?_)
  go_simp
  refine (F12 _ khB khA).mono ?_
  rintro e w42 ⟨rfl, b42⟩
  clear F12
  replace khX := khX.below b42
  replace khY := khY.below b42
  replace khA := khA.below b42
  replace khB := khB.below b42
  have B42 : Below w38.heap.size w38 w42 := bstep B41 b42
  clear B41 b42
  replace hHeld := KEEP _ B42
  go_wp2_with fail
  refine hK.out _ _ (AllL.kept hHeld) ?_
  clear hK K
  (try simp only [Act.put, putA, putB, putC])
  refine late_st 37 rfl (fun K hK => ?_)
  go_simp
  refine (R12 _ khY khX).mono ?_
  rintro e w43 ⟨rfl, b43⟩
  clear R12
  replace khX := khX.below b43
  replace khY := khY.below b43
  replace khA := khA.below b43
  replace khB := khB.below b43
  have B43 : Below w38.heap.size w38 w43 := bstep B42 b43
  clear B42 b43
  replace hHeld := KEEP _ B43
  go_wp2_with fail
  refine hK.out _ _ (AllL.kept hHeld) ?_
  clear hK K
  (try simp only [Act.put, putA, putB, putC])
  refine late_fr 38 (v := .bool false) rfl (Or.inl ⟨by rfl, ?_⟩) hHeld ?_
  · (intro u _; go_simp)
  (try simp only [Act.put, putA, putB, putC])
  refine late_fr 39 (v := .bool false) rfl (Or.inl ⟨by rfl, ?_⟩) hHeld ?_
  · (intro u _; go_simp)
  (try simp only [Act.put, putA, putB, putC])
  refine late_fr 40 (v := .bool false) rfl (Or.inl ⟨by rfl, ?_⟩) hHeld ?_
  · (intro u _; go_simp)
  (try simp only [Act.put, putA, putB, putC])
  refine late_tk 41 (v := .agg #[.bool na, .slice uo ul uc, .slice vo vl vc]) rfl (List.Mem.tail _ (List.Mem.tail _ (List.Mem.tail _ (List.Mem.tail _ (List.Mem.tail _ (List.Mem.tail _ (List.Mem.tail _ (List.Mem.tail _ (List.Mem.head _))))))))) (Or.inl ⟨by rfl, ?_⟩) hHeld ?_
  · (intro u hu; (try dsimp only at hu); go_split_ands; go_simp)
  (try simp only [Act.put, putA, putB, putC])
  refine late_tk 43 (v := .agg #[.bool na, .slice ao al2 ac, .slice aO aL2 aC]) rfl (List.Mem.tail _ (List.Mem.tail _ (List.Mem.tail _ (List.Mem.tail _ (List.Mem.tail _ (List.Mem.tail _ (List.Mem.tail _ (List.Mem.tail _ (List.Mem.tail _ (List.Mem.head _)))))))))) (Or.inl ⟨by rfl, ?_⟩) hHeld ?_
  · (intro u hu; (try dsimp only at hu); go_split_ands; go_simp)
  (try simp only [Act.put, putA, putB, putC])
  refine late_st 42 rfl (fun K hK => ?_)
  go_simp
  refine (F13 _ khA).mono ?_
  rintro e w44 ⟨rfl, b44⟩
  clear F13
  replace khX := khX.below b44
  replace khY := khY.below b44
  replace khA := khA.below b44
  replace khB := khB.below b44
  have B44 : Below w38.heap.size w38 w44 := bstep B43 b44
  clear B43 b44
  replace hHeld := KEEP _ B44
  go_wp2_with fail
  refine hK.out _ _ (AllL.kept hHeld) ?_
  clear hK K
  (try simp only [Act.put, putA, putB, putC])
  refine late_st 44 rfl (fun K hK => ?_)
  go_simp
  refine (R13 _ khX).mono ?_
  rintro e w45 ⟨rfl, b45⟩
  clear R13
  replace khX := khX.below b45
  replace khY := khY.below b45
  replace khA := khA.below b45
  replace khB := khB.below b45
  have B45 : Below w38.heap.size w38 w45 := bstep B44 b45
  clear B44 b45
  replace hHeld := KEEP _ B45
  go_wp2_with fail
  refine hK.out _ _ (AllL.kept hHeld) ?_
  clear hK K
  (try simp only [Act.put, putA, putB, putC])
  refine late_fr 45 (v := .bool false) rfl (Or.inl ⟨by rfl, ?_⟩) hHeld ?_
  · (intro u _; go_simp)
  (try simp only [Act.put, putA, putB, putC])
  refine late_fr 46 (v := .bool false) rfl (Or.inl ⟨by rfl, ?_⟩) hHeld ?_
  · (intro u _; go_simp)
  (try simp only [Act.put, putA, putB, putC])
  refine late_done (by kernel_rfl) ?_ _
  clear KEEP hHeld khX khY khA khB
  have b := B45
  clear B45
  replace ra := ra.below b
  replace rb := rb.below b
  replace rc := rc.below b
  replace rd := rd.below b
  replace hX := hX.below b
  replace hY := hY.below b
  replace hA := hA.below b
  replace hB := hB.below b
  replace hB0 := Nat.le_trans hB0 b.size
  replace hf0n := hf0n.below (Nat.le_refl _) b
  replace hg0n := hg0n.below (Nat.le_refl _) b
  replace hx0 := hx0.below (Nat.le_refl _) b
  replace hy0 := hy0.below (Nat.le_refl _) b
  replace hf5n := hf5n.below (Nat.le_refl _) b
  replace hg5n := hg5n.below (Nat.le_refl _) b
  replace hx5 := hx5.below (Nat.le_refl _) b
  replace hy5 := hy5.below (Nat.le_refl _) b
  replace hf1n := hf1n.below (Nat.le_refl _) b
  replace hg1n := hg1n.below (Nat.le_refl _) b
  replace hf2n := hf2n.below (Nat.le_refl _) b
  replace hg2n := hg2n.below (Nat.le_refl _) b
  replace hf3n := hf3n.below (Nat.le_refl _) b
  replace hg3n := hg3n.below (Nat.le_refl _) b
  replace hf4n := hf4n.below (Nat.le_refl _) b
  replace hg4n := hg4n.below (Nat.le_refl _) b
  replace hf6n := hf6n.below (Nat.le_refl _) b
  replace hg6n := hg6n.below (Nat.le_refl _) b
  replace hf7n := hf7n.below (Nat.le_refl _) b
  replace hg7n := hg7n.below (Nat.le_refl _) b
  replace hf8n := hf8n.below (Nat.le_refl _) b
  replace hg8n := hg8n.below (Nat.le_refl _) b
  replace hf9n := hf9n.below (Nat.le_refl _) b
  replace hg9n := hg9n.below (Nat.le_refl _) b
  replace rG := rG.below b
  replace hx1 := hx1.below (Nat.le_refl _) b
  replace hy1 := hy1.below (Nat.le_refl _) b
  replace hx2 := hx2.below (Nat.le_refl _) b
  replace hy2 := hy2.below (Nat.le_refl _) b
  replace hx3 := hx3.below (Nat.le_refl _) b
  replace hy3 := hy3.below (Nat.le_refl _) b
  replace hx4 := hx4.below (Nat.le_refl _) b
  replace hy4 := hy4.below (Nat.le_refl _) b
  replace hx6 := hx6.below (Nat.le_refl _) b
  replace hy6 := hy6.below (Nat.le_refl _) b
  replace hx7 := hx7.below (Nat.le_refl _) b
  replace hy7 := hy7.below (Nat.le_refl _) b
  replace hx8 := hx8.below (Nat.le_refl _) b
  replace hy8 := hy8.below (Nat.le_refl _) b
  replace hx9 := hx9.below (Nat.le_refl _) b
  replace hy9 := hy9.below (Nat.le_refl _) b
  replace rH := rH.below b
  replace HBag := HBag.below b
  replace hf10 := hf10.below (Nat.le_refl _) b
  replace qa := qa.below b
  replace qb := qb.below b
  replace qu := qu.below b
  replace qv := qv.below b
  replace qn := qn.below b
  replace qm := qm.below b
  replace qd := qd.below b
  replace qo := qo.below b
  replace qi := qi.below b
  replace hb := bstep hb b
  replace hsz := Nat.lt_of_lt_of_le hsz b.size
  clear b
  clear hX hY hA hB hf0n hg0n hx0 hy0 hf1n hg1n hx1 hy1 hf2n hg2n hx2 hy2 hf3n hg3n hx3 hy3 hf4n hg4n hx4 hy4 hf5n hg5n hx5 hy5 hf6n hg6n hx6 hy6 hf7n hg7n hx7 hy7 hf8n hg8n hx8 hy8 hf9n hg9n hx9 hy9 hf10 rH
  obtain ⟨ms, hms⟩ : ∃ ms : Nat → Value, ms = (sel10 (.slice f0o l0 f0c) (.slice f1o l1 f1c) (.slice f2o l2 f2c) (.slice f3o l3 f3c) (.slice f4o l4 f4c) (.slice f5o l5 f5c) (.slice f6o l6 f6c) (.slice f7o l7 f7c) (.slice f8o l8 f8c) (.slice f9o l9 f9c)) := ⟨_, rfl⟩
  obtain ⟨ds, hds⟩ : ∃ ds : Nat → Value, ds = (sel10 (.slice g0o L0 g0c) (.slice g1o L1 g1c) (.slice g2o L2 g2c) (.slice g3o L3 g3c) (.slice g4o L4 g4c) (.slice g5o L5 g5c) (.slice g6o L6 g6c) (.slice g7o L7 g7c) (.slice g8o L8 g8c) (.slice g9o L9 g9c)) := ⟨_, rfl⟩
  obtain ⟨ys, hys⟩ : ∃ ys : Nat → List Nat, ys = fun j => (((Value.slice f10o l10 f10c, m10) :: ([(Value.slice f0o l0 f0c, m0), (Value.slice g0o L0 g0c, d0)] ++ ([(Value.slice f1o l1 f1c, m1), (Value.slice g1o L1 g1c, d1), (Value.slice f2o l2 f2c, m2), (Value.slice g2o L2 g2c, d2), (Value.slice f3o l3 f3c, m3), (Value.slice g3o L3 g3c, d3), (Value.slice f4o l4 f4c, m4), (Value.slice g4o L4 g4c, d4)] ++ ([(Value.slice f5o l5 f5c, m5), (Value.slice g5o L5 g5c, d5)] ++ [(Value.slice f6o l6 f6c, m6), (Value.slice g6o L6 g6c, d6), (Value.slice f7o l7 f7c, m7), (Value.slice g7o L7 g7c, d7), (Value.slice f8o l8 f8c, m8), (Value.slice g8o L8 g8c, d8), (Value.slice f9o l9 f9c, m9), (Value.slice g9o L9 g9c, d9)])))).map Prod.snd).getD j [] := ⟨_, rfl⟩
  have HB2 : Bag B0 w45 ((Value.slice f10o l10 f10c, m10) :: ([(Value.slice f0o l0 f0c, m0), (Value.slice g0o L0 g0c, d0)] ++ ([(Value.slice f1o l1 f1c, m1), (Value.slice g1o L1 g1c, d1), (Value.slice f2o l2 f2c, m2), (Value.slice g2o L2 g2c, d2), (Value.slice f3o l3 f3c, m3), (Value.slice g3o L3 g3c, d3), (Value.slice f4o l4 f4c, m4), (Value.slice g4o L4 g4c, d4)] ++ ([(Value.slice f5o l5 f5c, m5), (Value.slice g5o L5 g5c, d5)] ++ [(Value.slice f6o l6 f6c, m6), (Value.slice g6o L6 g6c, d6), (Value.slice f7o l7 f7c, m7), (Value.slice g7o L7 g7c, d7), (Value.slice f8o l8 f8c, m8), (Value.slice g8o L8 g8c, d8), (Value.slice f9o l9 f9c, m9), (Value.slice g9o L9 g9c, d9)])))) := Bag.perm (l := [(Value.slice f0o l0 f0c, m0), (Value.slice g0o L0 g0c, d0)] ++ ([(Value.slice f5o l5 f5c, m5), (Value.slice g5o L5 g5c, d5)] ++ ([(Value.slice f1o l1 f1c, m1), (Value.slice g1o L1 g1c, d1), (Value.slice f2o l2 f2c, m2), (Value.slice g2o L2 g2c, d2), (Value.slice f3o l3 f3c, m3), (Value.slice g3o L3 g3c, d3), (Value.slice f4o l4 f4c, m4), (Value.slice g4o L4 g4c, d4)] ++ ([(Value.slice f6o l6 f6c, m6), (Value.slice g6o L6 g6c, d6), (Value.slice f7o l7 f7c, m7), (Value.slice g7o L7 g7c, d7), (Value.slice f8o l8 f8c, m8), (Value.slice g8o L8 g8c, d8), (Value.slice f9o l9 f9c, m9), (Value.slice g9o L9 g9c, d9)] ++ [(Value.slice f10o l10 f10c, m10)])))) HBag (perm_arith _ _ _ _ _)
  have HGS : Hid (.slice f10o l10 f10c :: prs ms ds 10 = ((Value.slice f10o l10 f10c, m10) :: ([(Value.slice f0o l0 f0c, m0), (Value.slice g0o L0 g0c, d0)] ++ ([(Value.slice f1o l1 f1c, m1), (Value.slice g1o L1 g1c, d1), (Value.slice f2o l2 f2c, m2), (Value.slice g2o L2 g2c, d2), (Value.slice f3o l3 f3c, m3), (Value.slice g3o L3 g3c, d3), (Value.slice f4o l4 f4c, m4), (Value.slice g4o L4 g4c, d4)] ++ ([(Value.slice f5o l5 f5c, m5), (Value.slice g5o L5 g5c, d5)] ++ [(Value.slice f6o l6 f6c, m6), (Value.slice g6o L6 g6c, d6), (Value.slice f7o l7 f7c, m7), (Value.slice g7o L7 g7c, d7), (Value.slice f8o l8 f8c, m8), (Value.slice g8o L8 g8c, d8), (Value.slice f9o l9 f9c, m9), (Value.slice g9o L9 g9c, d9)])))).map Prod.fst) := by show _ = _; rw [hms, hds]; rfl
  have hfam : Fam B0 w45 (.slice f10o l10 f10c :: prs ms ds 10) ys := by rw [HGS.out, hys]; exact HB2.fam
  have hdist : Dist (.slice f10o l10 f10c :: prs ms ds 10) := by rw [HGS.out]; exact HB2.dist
  have hlen : ∀ j, j < 21 → (ys j).length ≤ 1099511627776 := by
    intro j hj
    rw [hys]
    match j, hj with
    | 0, _ => exact Nat.le_trans HL10.out (by decide)
    | 1, _ => exact Nat.le_trans HL0.out.1 (by decide)
    | 2, _ => exact Nat.le_trans HL0.out.2 (by decide)
    | 3, _ => exact Nat.le_trans HL1.out.1 (by decide)
    | 4, _ => exact Nat.le_trans HL1.out.2 (by decide)
    | 5, _ => exact Nat.le_trans HL2.out.1 (by decide)
    | 6, _ => exact Nat.le_trans HL2.out.2 (by decide)
    | 7, _ => exact Nat.le_trans HL3.out.1 (by decide)
    | 8, _ => exact Nat.le_trans HL3.out.2 (by decide)
    | 9, _ => exact Nat.le_trans HL4.out.1 (by decide)
    | 10, _ => exact Nat.le_trans HL4.out.2 (by decide)
    | 11, _ => exact Nat.le_trans HL5.out.1 (by decide)
    | 12, _ => exact Nat.le_trans HL5.out.2 (by decide)
    | 13, _ => exact Nat.le_trans HL6.out.1 (by decide)
    | 14, _ => exact Nat.le_trans HL6.out.2 (by decide)
    | 15, _ => exact Nat.le_trans HL7.out.1 (by decide)
    | 16, _ => exact Nat.le_trans HL7.out.2 (by decide)
    | 17, _ => exact Nat.le_trans HL8.out.1 (by decide)
    | 18, _ => exact Nat.le_trans HL8.out.2 (by decide)
    | 19, _ => exact Nat.le_trans HL9.out.1 (by decide)
    | 20, _ => exact Nat.le_trans HL9.out.2 (by decide)
    | n + 21, h => exact absurd h (by omega)
  have hrow : ∀ i, i < 10 → w45.cell? ⟨vG, i * 3 + 1, none⟩ = some (ms i) ∧ w45.cell? ⟨vG, i * 3 + 2, none⟩ = some (ds i) := by
    intro i hi
    rw [hms, hds]
    match i, hi with
    | 0, _ => exact ⟨rG.cell rfl, rG.cell rfl⟩
    | 1, _ => exact ⟨rG.cell rfl, rG.cell rfl⟩
    | 2, _ => exact ⟨rG.cell rfl, rG.cell rfl⟩
    | 3, _ => exact ⟨rG.cell rfl, rG.cell rfl⟩
    | 4, _ => exact ⟨rG.cell rfl, rG.cell rfl⟩
    | 5, _ => exact ⟨rG.cell rfl, rG.cell rfl⟩
    | 6, _ => exact ⟨rG.cell rfl, rG.cell rfl⟩
    | 7, _ => exact ⟨rG.cell rfl, rG.cell rfl⟩
    | 8, _ => exact ⟨rG.cell rfl, rG.cell rfl⟩
    | 9, _ => exact ⟨rG.cell rfl, rG.cell rfl⟩
  have hsl : ∀ i, i < 10 → (∃ o l c, ms i = .slice o l c) ∧ ∃ o l c, ds i = .slice o l c := by
    intro i hi
    rw [hms, hds]
    match i, hi with
    | 0, _ => exact ⟨⟨_, _, _, rfl⟩, _, _, _, rfl⟩
    | 1, _ => exact ⟨⟨_, _, _, rfl⟩, _, _, _, rfl⟩
    | 2, _ => exact ⟨⟨_, _, _, rfl⟩, _, _, _, rfl⟩
    | 3, _ => exact ⟨⟨_, _, _, rfl⟩, _, _, _, rfl⟩
    | 4, _ => exact ⟨⟨_, _, _, rfl⟩, _, _, _, rfl⟩
    | 5, _ => exact ⟨⟨_, _, _, rfl⟩, _, _, _, rfl⟩
    | 6, _ => exact ⟨⟨_, _, _, rfl⟩, _, _, _, rfl⟩
    | 7, _ => exact ⟨⟨_, _, _, rfl⟩, _, _, _, rfl⟩
    | 8, _ => exact ⟨⟨_, _, _, rfl⟩, _, _, _, rfl⟩
    | 9, _ => exact ⟨⟨_, _, _, rfl⟩, _, _, _, rfl⟩
  clear HBag HB2 HGS hms hds hys rG
  obtain ⟨WO, hWO⟩ : ∃ W, W = w45.alloc (.cells #[.slice f10o l10 f10c] 23) := ⟨_, rfl⟩
  have hO0 : WO.ownsRow w45.heap.size 23 1 (.slice (some ⟨w45.heap.size, 0, none⟩) 1 1) 1 [.slice f10o l10 f10c] := by rw [hWO]; exact ⟨rfl, Or.inr ⟨_, 1, _, rfl, Nat.le_refl _, heap_alloc_new _ _, by decide, by decide, rfl, rfl⟩⟩
  have hbO : Below w45.heap.size w45 WO := by rw [hWO]; exact belowA _ _
  clear qn qm qd qo
  obtain ⟨cqa0, cqa1, cqa2⟩ := qa.cells
  obtain ⟨cqb0, cqb1, cqb2⟩ := qb.cells
  obtain ⟨cqu0, cqu1, cqu2⟩ := qu.cells
  obtain ⟨cqv0, cqv1, cqv2⟩ := qv.cells
  obtain ⟨cqi0, cqi1⟩ := qi.cells
  have HWO : Hid (WO = w45.alloc (.cells #[.slice f10o l10 f10c] 23)) := hWO
  clear hWO
  go_wp2_with fail
  rw [← HWO.out]
  clear HWO qi cqa0 cqa1 cqa2 cqb0 cqb1 cqb2 cqu0 cqu1 cqu2 cqv0 cqv1 cqv2 cqi0 cqi1
  obtain ⟨vO, hvO⟩ : ∃ v, v = w45.heap.size := ⟨_, rfl⟩
  rw [← hvO] at hO0 hbO ⊢
  have HVO : Hid (vO = w45.heap.size) := hvO
  clear hvO
  obtain ⟨iN, hiN, hzN0, hzN1, hzN2⟩ := info_parts Tryz.infoN3
  go_loopw [20, 21] (fun va t wr => ∃ i : Nat, i ≤ 10 ∧ t = .int .i64 i ∧ wr.ownsRow vO 23 1 va (i + i + 1) (.slice f10o l10 f10c :: prs ms ds i) ∧ Below vO w45 wr) (fun _ t _ => 10 - (intOf t).toNat)
  case atStart => exact ⟨0, Nat.zero_le _, rfl, hO0, hbO⟩
  case round =>
    obtain ⟨i, hin, rfl, hown0, hbel⟩ := hrel
    clear hO0 hbO
    by_cases hlt : i < 10
    · have hge : (i : Int) < 10 := by omega
      obtain ⟨c1, c2⟩ := hrow i hlt
      obtain ⟨⟨mo, ml, mc, e1⟩, do_, dl, dc, e2⟩ := hsl i hlt
      rw [e1] at c1
      rw [e2] at c2
      replace c1 : wr.drew.cell? ⟨vG, i * 3 + 1, none⟩ = some (.slice mo ml mc) := keepB (by rw [← HVO.out]; exact hbel.trans (Below.refl _ _).drew) c1
      replace c2 : wr.drew.cell? ⟨vG, i * 3 + 2, none⟩ = some (.slice do_ dl dc) := keepB (by rw [← HVO.out]; exact hbel.trans (Below.refl _ _).drew) c2
      have HP : Hid (prs ms ds (i + 1) = prs ms ds i ++ [.slice mo ml mc, .slice do_ dl dc]) := by show prs ms ds i ++ [ms i, ds i] = _; rw [e1, e2]
      obtain ⟨va, hva⟩ : ∃ v, v = u20 := ⟨_, rfl⟩
      rw [← hva] at hown0 ⊢
      clear hva
      have hB1 : vO ≤ wr.heap.size := by rw [HVO.out] at hbel ⊢; exact hbel.size
      have HO : Hid (wr.drew.ownsRow vO 23 1 va (i + i + 1) (.slice f10o l10 f10c :: prs ms ds i)) := hown0
      have HL : Hid (Below vO w45 wr) := hbel
      clear hown0 hbel hrow hsl hfam hdist hlen e1 e2 hB0 ra rb rc rd qa qb qu qv hb hsz
      go_wp2_with fail
      refine region_late [(6, fun w' => w'.cell? ⟨vG, i * 3 + 1, none⟩ = some (.slice mo ml mc)), (11, fun w' => w'.cell? ⟨vG, i * 3 + 2, none⟩ = some (.slice do_ dl dc))] (by kernel_rfl) ?_
      have hHeld : AllL wr.drew [(6, fun w' => w'.cell? ⟨vG, i * 3 + 1, none⟩ = some (.slice mo ml mc)), (11, fun w' => w'.cell? ⟨vG, i * 3 + 2, none⟩ = some (.slice do_ dl dc))] := ⟨c1, c2, trivial⟩
      refine late_fr 0 (v := va) rfl (Or.inl ⟨by rfl, ?_⟩) hHeld ?_
      · (intro u _; go_simp)
      (try simp only [Act.put, putA, putB, putC])
      refine late_fr 1 (v := .slice (some ⟨vG, 0, none⟩) 10 10) rfl (Or.inl ⟨by rfl, ?_⟩) hHeld ?_
      · (intro u _; go_simp)
      (try simp only [Act.put, putA, putB, putC])
      refine late_fr 2 (v := .int .i64 (i : Int)) rfl (Or.inl ⟨by rfl, ?_⟩) hHeld ?_
      · (intro u _; go_simp)
      (try simp only [Act.put, putA, putB, putC])
      refine late_fr 7 (v := .slice (some ⟨vG, 0, none⟩) 10 10) rfl (Or.inl ⟨by rfl, ?_⟩) hHeld ?_
      · (intro u _; go_simp)
      (try simp only [Act.put, putA, putB, putC])
      refine late_fr 8 (v := .int .i64 (i : Int)) rfl (Or.inl ⟨by rfl, ?_⟩) hHeld ?_
      · (intro u _; go_simp)
      (try simp only [Act.put, putA, putB, putC])
      refine late_fr 3 (v := .pointer (some ⟨vG, i * 3, none⟩)) rfl (Or.inl ⟨by rfl, ?_⟩) hHeld ?_
      · (intro u _; go_simp)
      (try simp only [Act.put, putA, putB, putC])
      refine late_fr 9 (v := .pointer (some ⟨vG, i * 3, none⟩)) rfl (Or.inl ⟨by rfl, ?_⟩) hHeld ?_
      · (intro u _; go_simp)
      (try simp only [Act.put, putA, putB, putC])
      refine late_fr 4 (v := .pointer (some ⟨vG, i * 3, none⟩)) rfl (Or.inl ⟨by rfl, ?_⟩) hHeld ?_
      · (intro u _; go_simp)
      (try simp only [Act.put, putA, putB, putC])
      refine late_fr 5 (v := .pointer (some ⟨vG, i * 3 + 1, none⟩)) rfl (Or.inl ⟨by rfl, ?_⟩) hHeld ?_
      · (intro u _; go_simp)
      (try simp only [Act.put, putA, putB, putC])
      refine late_fr 10 (v := .pointer (some ⟨vG, i * 3 + 2, none⟩)) rfl (Or.inl ⟨by rfl, ?_⟩) hHeld ?_
      · (intro u _; go_simp)
      (try simp only [Act.put, putA, putB, putC])
      refine late_tk 6 (v := .slice mo ml mc) rfl (List.Mem.head _) (Or.inl ⟨by rfl, ?_⟩) hHeld ?_
      · (intro u hu; (try dsimp only at hu); go_split_ands; go_simp)
      (try simp only [Act.put, putA, putB, putC])
      refine late_tk 11 (v := .slice do_ dl dc) rfl (List.Mem.tail _ (List.Mem.head _)) (Or.inl ⟨by rfl, ?_⟩) hHeld ?_
      · (intro u hu; (try dsimp only at hu); go_split_ands; go_simp)
      (try simp only [Act.put, putA, putB, putC])
      refine late_st 12 rfl (fun K hK => ?_)
      go_simp
      refine hK.out _ _ ⟨kpt 12, kpt 12, trivial⟩ ?_
      clear hK K
      (try simp only [Act.put, putA, putB, putC])
      refine late_st 13 rfl (fun K hK => ?_)
      rw [if_pos (by rfl)]
      refine wp_append_lies _ _ _ 42 rfl vO 23 iN (.slice none 0 0) 1 24 Tryz.underlying42 hiN hzN0 hzN1 hzN2 rfl (by decide) va (i + i + 1) _ rfl (HO.out.alloc _) ⟨wr.drew.heap.size, 0, none⟩ 2 2 [.slice mo ml mc, .slice do_ dl dc] rfl rfl (cell_two_new _ _ _ _) (by simp [Value.oneCell']) (by decide) (by unfold maxLen; omega) (by omega) (Nat.le_trans hB1 (by simp)) _ rfl ?_
      intro ga ca w7 hown hgr hga hgl
      refine hK.out _ _ ⟨kpt 12, kpt 12, trivial⟩ ?_
      clear hK K
      (try simp only [Act.put, putA, putB, putC])
      refine late_st 14 rfl (fun K hK => ?_)
      go_simp
      refine hK.out _ _ ⟨kpt 12, kpt 12, trivial⟩ ?_
      clear hK K
      (try simp only [Act.put, putA, putB, putC])
      refine late_done (by kernel_rfl) ?_ _
      clear hHeld
      have HR : Hid (w7.ownsRow vO 23 1 (.slice (some ⟨ga, 0, none⟩) (i + i + 1 + 2) ca) (i + i + 1 + 2) (.slice f10o l10 f10c :: prs ms ds (i + 1)) ∧ Below vO w45 w7) := by
        refine ⟨by rw [HP.out]; exact hown, ((bstepA HL.out hB1 _).drew).grown hgr (by simp; omega) (fun k hk => (HO.out.lt k hk).1)⟩
      clear hown hgr hga hgl HO HL HP
      go_wp2
      go_roundw
      case rel => exact ⟨i + 1, by omega, by go_num, by rw [show i + 1 + (i + 1) + 1 = i + i + 1 + 2 by omega]; exact HR.out.1, HR.out.2⟩
      case measure => simp [intOf]; omega
    · have hge : ¬ (i : Int) < 10 := by omega
      obtain rfl : i = 10 := by omega
      obtain ⟨ga, ca, hva⟩ := Joins.ownsRow_form hown0 (by omega)
      subst hva
      rw [HVO.out] at hbel hown0
      have b := hbel
      clear hbel
      have hq := own_yes B0 ga ca 21 _ ys wr (Nat.le_trans hB0 b.size) (by decide) (Joins.ownsRow_le hown0 hB0) (fun j hj => (hfam j hj).below b) hdist hlen
      clear hown0 hrow hsl hlen hlt
      replace hfam : Fam B0 wr (.slice f10o l10 f10c :: prs ms ds 10) ys := fun j hj => (hfam j hj).below b
      replace ra := ra.below b
      replace rb := rb.below b
      replace rc := rc.below b
      replace rd := rd.below b
      replace hB0 := Nat.le_trans hB0 b.size
      replace qa := qa.below b
      replace qb := qb.below b
      replace qu := qu.below b
      replace qv := qv.below b
      replace hb := bstep hb b
      replace hsz := Nat.lt_of_lt_of_le hsz b.size
      clear b
      obtain ⟨cqa0, cqa1, cqa2⟩ := qa.cells
      obtain ⟨cqb0, cqb1, cqb2⟩ := qb.cells
      obtain ⟨cqu0, cqu1, cqu2⟩ := qu.cells
      obtain ⟨cqv0, cqv1, cqv2⟩ := qv.cells
      go_wp2_with fail
      clear cqa0 cqa1 cqa2 cqb0 cqb1 cqb2 cqu0 cqu1 cqu2 cqv0 cqv1 cqv2
      refine hq.mono ?_
      rintro e wK ⟨rfl, hx⟩
      clear hq
      replace hb := hb.trans (hx.below (B := w.heap.size) hb.size (fun j k hj e => Nat.le_trans HWB.out ((hfam j hj).block k e).1))
      replace ra := ra.bex hx (apart_base hfam HRA.out)
      replace rb := rb.bex hx (apart_base hfam HRB.out)
      replace rc := rc.bex hx (apart_base hfam HRC.out)
      replace rd := rd.bex hx (apart_base hfam HRD.out)
      replace qa := qa.bexA hx hfam
      replace qb := qb.bexA hx hfam
      replace qu := qu.bexA hx hfam
      replace qv := qv.bexA hx hfam
      obtain ⟨ua, va, ub, vb⟩ := HU.out
      replace ua := ua.below (Nat.le_refl _) hb
      replace va := va.below (Nat.le_refl _) hb
      replace ub := ub.below (Nat.le_refl _) hb
      replace vb := vb.below (Nat.le_refl _) hb
      clear hx hfam hdist hB0 hsz HU
      obtain ⟨cqa0, cqa1, cqa2⟩ := qa.cells
      obtain ⟨cqb0, cqb1, cqb2⟩ := qb.cells
      obtain ⟨cqu0, cqu1, cqu2⟩ := qu.cells
      obtain ⟨cqv0, cqv1, cqv2⟩ := qv.cells
      go_wp2_with fail
      clear cqa0 cqa1 cqa2 cqb0 cqb1 cqb2 cqu0 cqu1 cqu2 cqv0 cqv1 cqv2
      refine (kept3 _ na uo ao vo aO ul uc al2 ac vl vc aL2 aC xa2 ya2 _ ra rb ua va (Nat.le_trans HLA.out (by decide)) (Nat.le_trans HLa.out (by decide))).mono ?_
      rintro e w46 ⟨rfl, b⟩
      replace ra := ra.below b
      replace rb := rb.below b
      replace rc := rc.below b
      replace rd := rd.below b
      replace ua := ua.below (Nat.le_refl _) b
      replace va := va.below (Nat.le_refl _) b
      replace ub := ub.below (Nat.le_refl _) b
      replace vb := vb.below (Nat.le_refl _) b
      replace qa := qa.below b
      replace qb := qb.below b
      replace qu := qu.below b
      replace qv := qv.below b
      replace hb := bstep hb b
      clear b
      obtain ⟨cqa0, cqa1, cqa2⟩ := qa.cells
      obtain ⟨cqb0, cqb1, cqb2⟩ := qb.cells
      obtain ⟨cqu0, cqu1, cqu2⟩ := qu.cells
      obtain ⟨cqv0, cqv1, cqv2⟩ := qv.cells
      go_wp2_with fail
      clear cqa0 cqa1 cqa2 cqb0 cqb1 cqb2 cqu0 cqu1 cqu2 cqv0 cqv1 cqv2
      refine (kept3 _ nb eo bo fo bO el ec bl2 bc fl fc bL2 bC xb2 yb2 _ rc rd ub vb (Nat.le_trans HLB.out (by decide)) (Nat.le_trans HLb.out (by decide))).mono ?_
      rintro e w47 ⟨rfl, b⟩
      replace ra := ra.below b
      replace rb := rb.below b
      replace rc := rc.below b
      replace rd := rd.below b
      replace ua := ua.below (Nat.le_refl _) b
      replace va := va.below (Nat.le_refl _) b
      replace ub := ub.below (Nat.le_refl _) b
      replace vb := vb.below (Nat.le_refl _) b
      replace qa := qa.below b
      replace qb := qb.below b
      replace qu := qu.below b
      replace qv := qv.below b
      replace hb := bstep hb b
      clear b
      have HE : Hid (Below w.heap.size w w47) := hb
      clear hb qa qb qu qv ra rb rc rd ua va ub vb
      go_wp2
      go_ret
      exact ⟨rfl, HE.out⟩
end Go.Proofs.YtnehfkbpbgmbaaaGreatDoor
