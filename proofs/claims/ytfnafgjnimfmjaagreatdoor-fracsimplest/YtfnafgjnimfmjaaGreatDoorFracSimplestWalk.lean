/-
  Proved here: the walk of FracSimplest.
-/
import Derived.Test.YtfnafgjnimfmjaaGreatDoorFracHAll
import Derived.Test.YtfnafgjnimfmjaaGreatDoorR3C
import Derived.Test.YtfnafgjnimfmjaaGreatDoorRSimp
import Derived.Test.YtfnafgjnimfmjaaGreatDoorLeastM
namespace Go.Proofs.YtfnafgjnimfmjaaGreatDoor
open Go.RowKit
/-- The answer's sign, error and limbs. -/
def zS (a b : Rat) : Bool := if 0 < cmpQ a b then false else decide ((spQ a b).num < 0)
def zE (a b : Rat) : Int := if 0 < cmpQ a b then 3 else 0
def zM (a b : Rat) : List Nat := if 0 < cmpQ a b then [] else lim (spQ a b).num.natAbs
def zD (a b : Rat) : List Nat := if 0 < cmpQ a b then [] else lim (spQ a b).den
theorem zx_no {w w' : World} {a b : Rat} {e : Ending} (hc : 0 < cmpQ a b) (h : RNo3 w e w') : TEx w (zS a b) (zE a b) (zM a b) (zD a b) e w' := by
  obtain ⟨rfl, hb⟩ := h
  have g1 : zS a b = false := if_pos hc
  have g2 : zM a b = [] := if_pos hc
  have g3 : zD a b = [] := if_pos hc
  have g4 : zE a b = 3 := if_pos hc
  rw [g1, g2, g3, g4]
  exact ⟨none, 0, none, 0, rfl, Own.of_nil _ _ _, Own.of_nil _ _ _, .inl rfl, hb⟩
theorem zx_yes {w w' : World} {a b : Rat} {e : Ending} (hc : ¬ 0 < cmpQ a b) (h : RTEnd w (spQ a b) e w') : TEx w (zS a b) (zE a b) (zM a b) (zD a b) e w' := by
  obtain ⟨v, rfl, ⟨m, d, rfl, h1, h2, h3⟩, hb⟩ := h
  have g1 : zS a b = decide ((spQ a b).num < 0) := if_neg hc
  have g2 : zM a b = lim (spQ a b).num.natAbs := if_neg hc
  have g3 : zD a b = lim (spQ a b).den := if_neg hc
  have g4 : zE a b = 0 := if_neg hc
  rw [g1, g2, g3, g4]
  obtain ⟨mo, ml, mc, rfl⟩ := h1.sl
  obtain ⟨dO, dL, dC, rfl⟩ := h2.sl
  have e1 := (num_len h1.num).1
  have e2 := (num_len h2.num).1
  subst e1
  subst e2
  exact ⟨mo, mc, dO, dC, rfl, h1, h2, h3, hb⟩
theorem aSimpF {w : World} {v u : Value} {p r : Int} {q k : Nat} (h : RV w v p q) (h' : RV w u r k) : Calls Tryz.prog 12 #[v, u] w fun e w' => TEx w (zS (rq p q) (rq r k)) (zE (rq p q) (rq r k)) (zM (rq p q) (rq r k)) (zD (rq p q) (rq r k)) e w' := by
  by_cases hc : 0 < cmpQ (rq p q) (rq r k)
  · obtain ⟨n, ao, al, ac, bo, bl, bc, rfl, h1, h2⟩ := h
    obtain ⟨n', ao', al', ac', bo', bl', bc', rfl, h1', h2'⟩ := h'
    exact (simplest_no _ _ _ _ _ _ _ _ _ _ _ _ _ _ ⟨_, _, _, _, _, _, _, rfl, h1, h2⟩ ⟨_, _, _, _, _, _, _, rfl, h1', h2'⟩ hc).mono fun _ _ h => zx_no hc h
  · exact (simplestF h h' hc).mono fun _ _ h => zx_yes hc h
theorem aSimpR {w : World} {v u : Value} {p r : Int} {q k : Nat} (h : RV w v p q) (h' : RV w u r k) : Calls Tryz.prog 13 #[v, u] w fun e w' => TEx w (zS (rq p q) (rq r k)) (zE (rq p q) (rq r k)) (zM (rq p q) (rq r k)) (zD (rq p q) (rq r k)) e w' := by
  have hA : RQ w v (rq p q) := ⟨p, q, h, rfl⟩
  have hB : RQ w u (rq r k) := ⟨r, k, h', rfl⟩
  by_cases hc : 0 < cmpQ (rq p q) (rq r k)
  · exact (rsimp_no hA hB hc).mono fun _ _ h => zx_no hc h
  · exact (rsimplest hA hB (by omega)).mono fun _ _ h => zx_yes hc h
theorem ln_simp {w : World} {v u : Value} {p r : Int} {q k : Nat} (h : RV w v p q) (h' : RV w u r k) : (zM (rq p q) (rq r k)).length ≤ 81 ∧ (zD (rq p q) (rq r k)).length ≤ 81 := by
  have hA : RQ w v (rq p q) := ⟨p, q, h, rfl⟩
  unfold zM zD
  by_cases hc : 0 < cmpQ (rq p q) (rq r k)
  · rw [if_pos hc, if_pos hc]; exact ⟨by decide, by decide⟩
  · rw [if_neg hc, if_neg hc]
    have hs := RSz.sp (cmpQ_le hc) hA.sz
    exact ⟨Nat.le_trans hs.num.len (by omega), Nat.le_trans (show _ ≤ _ from by have := hs.den.len; rwa [Int.natAbs_natCast] at this) (by omega)⟩
theorem apart_base9 {B : Nat} {w : World} {gs : List Value} {ys : Nat → List Nat} {v : Value} (hf : Fam B w gs ys) (hv : ∀ k, v.ownBlock = some k → k < B) : ∀ j, j < gs.length → (at_ gs j).ownBlock = none ∨ (at_ gs j).ownBlock ≠ v.ownBlock := by
  intro j hj
  cases h : (at_ gs j).ownBlock with
  | none => exact Or.inl rfl
  | some k =>
    refine Or.inr fun e => ?_
    have h1 := ((hf j hj).block k h).1
    have h2 := hv k e.symm
    omega
theorem QCell.bexS {B : Nat} {gs : List Value} {ys : Nat → List Nat} {w w' : World} {g : Nat} {n : Bool} {m d : Value} (h : QCell w g n m d) (hb : Bex gs w w') (hf : Fam B w gs ys) : QCell w' g n m d := by
  have h' : w.heap[g]? = some (.cells #[.bool n, m, d] 27 (0, 0)) := h
  show w'.heap[g]? = some (.cells #[.bool n, m, d] 27 (0, 0))
  rw [hb.block g (Array.getElem?_eq_some_iff.1 h').1 (fun j hj e => ?_)]
  · exact h'
  · obtain ⟨o, l, c, hv⟩ := (hf j hj).sl
    have ho := hf j hj
    rw [hv] at ho e
    cases o with
    | none => cases e
    | some a =>
      obtain ⟨b, of, sp⟩ := a
      rcases ho.shape with ⟨hs, _⟩ | ⟨g2, cap, hs, _, _⟩
      · cases hs
      · simp only [Value.slice.injEq, Option.some.injEq, Addr.mk.injEq] at hs
        obtain ⟨⟨rfl, rfl, rfl⟩, _, _⟩ := hs
        have eb : b = g := Option.some.inj e
        obtain ⟨_, _, cur, hh, _⟩ := ho.heap
        rw [eb, h'] at hh
        simp only [Option.some.injEq, Obj.cells.injEq] at hh
        exact absurd hh.2.1 (by decide)
set_option maxRecDepth 100000 in
set_option maxHeartbeats 6400000 in
theorem fracSimplest_top (na : Bool) (ao aO : Option Addr) (al ac aL aC : Nat) (xa ya : List Nat) (nb : Bool) (bo bO : Option Addr) (bl bc bL bC : Nat) (xb yb : List Nat) (w : World) (ua : Num w (.slice ao al ac) xa) (va : Num w (.slice aO aL aC) ya) (ub : Num w (.slice bo bl bc) xb) (vb : Num w (.slice bO bL bC) yb) :
    Calls Tryz.prog 4 #[.agg #[.bool na, .slice ao al ac, .slice aO aL aC], .agg #[.bool nb, .slice bo bl bc, .slice bO bL bC]] w fun e w' => e = .returned (.bool true) ∧ Below w.heap.size w w' := by
  have h1 := (num_len ua).1
  have h2 := (num_len va).1
  have ua2 := num_cut ua (k := min al 8) (Nat.min_le_left _ _)
  have va2 := num_cut va (k := min aL 8) (Nat.min_le_left _ _)
  have HLA : Hid ((xa.take (min al 8)).length ≤ 40) := by show _ ≤ _; rw [List.length_take]; omega
  have HLa : Hid ((ya.take (min aL 8)).length ≤ 40) := by show _ ≤ _; rw [List.length_take]; omega
  clear h1 h2
  have h1 := (num_len ub).1
  have h2 := (num_len vb).1
  have ub2 := num_cut ub (k := min bl 8) (Nat.min_le_left _ _)
  have vb2 := num_cut vb (k := min bL 8) (Nat.min_le_left _ _)
  have HLB : Hid ((xb.take (min bl 8)).length ≤ 40) := by show _ ≤ _; rw [List.length_take]; omega
  have HLb : Hid ((yb.take (min bL 8)).length ≤ 40) := by show _ ≤ _; rw [List.length_take]; omega
  clear h1 h2
  obtain ⟨W1, hW1⟩ : ∃ W1, W1 = (w.alloc (.cells #[.bool na, .slice ao al ac, .slice aO aL aC] 27)).alloc (.cells #[.bool nb, .slice bo bl bc, .slice bO bL bC] 27) := ⟨_, rfl⟩
  have qa : QCell W1 (w.heap.size) na (.slice ao al ac) (.slice aO aL aC) := by rw [hW1]; exact (qcell_step (qcell_new _ (by simp)))
  have qb : QCell W1 (w.heap.size + 1) nb (.slice bo bl bc) (.slice bO bL bC) := by rw [hW1]; exact (qcell_new _ (by simp))
  have hb : Below w.heap.size w W1 := by rw [hW1]; exact bstep (belowA w _) (belowA _ _)
  have hsz : w.heap.size + 1 < W1.heap.size := by rw [hW1]; simp
  have HW1 : Hid (W1 = (w.alloc (.cells #[.bool na, .slice ao al ac, .slice aO aL aC] 27)).alloc (.cells #[.bool nb, .slice bo bl bc, .slice bO bL bC] 27)) := hW1
  clear hW1
  go_enter Tryz.func4, Tryz.ntmps4
  go_wp2_with fail
  rw [← HW1.out]
  clear HW1
  obtain ⟨g, hg⟩ : ∃ g, g = w.heap.size := ⟨_, rfl⟩
  rw [← hg] at qa qb hsz ⊢
  have HG : Hid (g = w.heap.size) := hg
  clear hg
  refine (l_awake).mono ?_
  rintro e w2 ⟨rfl, b⟩
  replace qa := qa.below b
  replace qb := qb.below b
  replace hb := bstep hb b
  replace hsz := Nat.lt_of_lt_of_le hsz b.size
  clear b
  obtain ⟨cqa0, cqa1, cqa2⟩ := qa.cells
  obtain ⟨cqb0, cqb1, cqb2⟩ := qb.cells
  go_wp2_with fail
  clear cqa0 cqa1 cqa2 cqb0 cqb1 cqb2
  refine (c_cut na ao aO al ac aL aC 8 xa ya _ (ua.below (Nat.le_refl _) hb) (va.below (Nat.le_refl _) hb) (by decide)).mono ?_
  rintro e w3 ⟨rfl, b⟩
  replace qa := qa.below b
  replace qb := qb.below b
  replace hb := bstep hb b
  replace hsz := Nat.lt_of_lt_of_le hsz b.size
  clear b
  generalize min al 8 = al2 at *
  generalize xa.take al2 = xa2 at *
  generalize min aL 8 = aL2 at *
  generalize ya.take aL2 = ya2 at *
  obtain ⟨y0, y1, y2⟩ := qa.cells
  have f0 := qa.thaw 0
  have f1 := qa.thaw 1
  have f2 := qa.thaw 2
  obtain ⟨X4, hX4⟩ : ∃ X, X = (((w3.setCell ⟨g, 0, none⟩ (.bool na)).setCell ⟨g, 1, none⟩ (.slice ao al2 ac)).setCell ⟨g, 2, none⟩ (.slice aO aL2 aC)) := ⟨_, rfl⟩
  have qa_ : QCell X4 (g) na (.slice ao al2 ac) (.slice aO aL2 aC) := by rw [hX4]; exact qa.write _ _ _
  have qb_ : QCell X4 (g + 1) nb (.slice bo bl bc) (.slice bO bL bC) := by rw [hX4]; exact ((qb.other (by omega) _ _).other (by omega) _ _).other (by omega) _ _
  replace hb : Below w.heap.size w X4 := by rw [hX4]; exact iend3 hb (by rw [HG.out]; omega)
  replace hsz : g + 1 < X4.heap.size := by rw [hX4]; simpa [World.setCell] using hsz
  replace qa := qa_
  clear qa_
  have rqa0 : ((((w3.setCell ⟨g, 0, none⟩ (.bool na)).setCell ⟨g, 1, none⟩ (.slice ao al2 ac)).setCell ⟨g, 2, none⟩ (.slice aO aL2 aC))).cell? ⟨g, 0, none⟩ = some (.bool na) := by rw [← hX4]; exact qa.cells.1
  have rqa1 : ((((w3.setCell ⟨g, 0, none⟩ (.bool na)).setCell ⟨g, 1, none⟩ (.slice ao al2 ac)).setCell ⟨g, 2, none⟩ (.slice aO aL2 aC))).cell? ⟨g, 1, none⟩ = some (.slice ao al2 ac) := by rw [← hX4]; exact qa.cells.2.1
  have rqa2 : ((((w3.setCell ⟨g, 0, none⟩ (.bool na)).setCell ⟨g, 1, none⟩ (.slice ao al2 ac)).setCell ⟨g, 2, none⟩ (.slice aO aL2 aC))).cell? ⟨g, 2, none⟩ = some (.slice aO aL2 aC) := by rw [← hX4]; exact qa.cells.2.2
  replace qb := qb_
  clear qb_
  have rqb0 : ((((w3.setCell ⟨g, 0, none⟩ (.bool na)).setCell ⟨g, 1, none⟩ (.slice ao al2 ac)).setCell ⟨g, 2, none⟩ (.slice aO aL2 aC))).cell? ⟨g + 1, 0, none⟩ = some (.bool nb) := by rw [← hX4]; exact qb.cells.1
  have rqb1 : ((((w3.setCell ⟨g, 0, none⟩ (.bool na)).setCell ⟨g, 1, none⟩ (.slice ao al2 ac)).setCell ⟨g, 2, none⟩ (.slice aO aL2 aC))).cell? ⟨g + 1, 1, none⟩ = some (.slice bo bl bc) := by rw [← hX4]; exact qb.cells.2.1
  have rqb2 : ((((w3.setCell ⟨g, 0, none⟩ (.bool na)).setCell ⟨g, 1, none⟩ (.slice ao al2 ac)).setCell ⟨g, 2, none⟩ (.slice aO aL2 aC))).cell? ⟨g + 1, 2, none⟩ = some (.slice bO bL bC) := by rw [← hX4]; exact qb.cells.2.2
  have HX4 : Hid (X4 = (((w3.setCell ⟨g, 0, none⟩ (.bool na)).setCell ⟨g, 1, none⟩ (.slice ao al2 ac)).setCell ⟨g, 2, none⟩ (.slice aO aL2 aC))) := hX4
  clear hX4
  go_wp2_with fail
  rw [← HX4.out]
  clear HX4 y0 y1 y2 f0 f1 f2 rqa0 rqa1 rqa2 rqb0 rqb1 rqb2
  refine (c_cut nb bo bO bl bc bL bC 8 xb yb _ (ub.below (Nat.le_refl _) hb) (vb.below (Nat.le_refl _) hb) (by decide)).mono ?_
  rintro e w5 ⟨rfl, b⟩
  replace qa := qa.below b
  replace qb := qb.below b
  replace hb := bstep hb b
  replace hsz := Nat.lt_of_lt_of_le hsz b.size
  clear b
  generalize min bl 8 = bl2 at *
  generalize xb.take bl2 = xb2 at *
  generalize min bL 8 = bL2 at *
  generalize yb.take bL2 = yb2 at *
  obtain ⟨y0, y1, y2⟩ := qb.cells
  have f0 := qb.thaw 0
  have f1 := qb.thaw 1
  have f2 := qb.thaw 2
  obtain ⟨X6, hX6⟩ : ∃ X, X = (((w5.setCell ⟨g + 1, 0, none⟩ (.bool nb)).setCell ⟨g + 1, 1, none⟩ (.slice bo bl2 bc)).setCell ⟨g + 1, 2, none⟩ (.slice bO bL2 bC)) := ⟨_, rfl⟩
  have qb_ : QCell X6 (g + 1) nb (.slice bo bl2 bc) (.slice bO bL2 bC) := by rw [hX6]; exact qb.write _ _ _
  have qa_ : QCell X6 (g) na (.slice ao al2 ac) (.slice aO aL2 aC) := by rw [hX6]; exact ((qa.other (by omega) _ _).other (by omega) _ _).other (by omega) _ _
  replace hb : Below w.heap.size w X6 := by rw [hX6]; exact iend3 hb (by rw [HG.out]; omega)
  replace hsz : g + 1 < X6.heap.size := by rw [hX6]; simpa [World.setCell] using hsz
  replace qa := qa_
  clear qa_
  have rqa0 : ((((w5.setCell ⟨g + 1, 0, none⟩ (.bool nb)).setCell ⟨g + 1, 1, none⟩ (.slice bo bl2 bc)).setCell ⟨g + 1, 2, none⟩ (.slice bO bL2 bC))).cell? ⟨g, 0, none⟩ = some (.bool na) := by rw [← hX6]; exact qa.cells.1
  have rqa1 : ((((w5.setCell ⟨g + 1, 0, none⟩ (.bool nb)).setCell ⟨g + 1, 1, none⟩ (.slice bo bl2 bc)).setCell ⟨g + 1, 2, none⟩ (.slice bO bL2 bC))).cell? ⟨g, 1, none⟩ = some (.slice ao al2 ac) := by rw [← hX6]; exact qa.cells.2.1
  have rqa2 : ((((w5.setCell ⟨g + 1, 0, none⟩ (.bool nb)).setCell ⟨g + 1, 1, none⟩ (.slice bo bl2 bc)).setCell ⟨g + 1, 2, none⟩ (.slice bO bL2 bC))).cell? ⟨g, 2, none⟩ = some (.slice aO aL2 aC) := by rw [← hX6]; exact qa.cells.2.2
  replace qb := qb_
  clear qb_
  have rqb0 : ((((w5.setCell ⟨g + 1, 0, none⟩ (.bool nb)).setCell ⟨g + 1, 1, none⟩ (.slice bo bl2 bc)).setCell ⟨g + 1, 2, none⟩ (.slice bO bL2 bC))).cell? ⟨g + 1, 0, none⟩ = some (.bool nb) := by rw [← hX6]; exact qb.cells.1
  have rqb1 : ((((w5.setCell ⟨g + 1, 0, none⟩ (.bool nb)).setCell ⟨g + 1, 1, none⟩ (.slice bo bl2 bc)).setCell ⟨g + 1, 2, none⟩ (.slice bO bL2 bC))).cell? ⟨g + 1, 1, none⟩ = some (.slice bo bl2 bc) := by rw [← hX6]; exact qb.cells.2.1
  have rqb2 : ((((w5.setCell ⟨g + 1, 0, none⟩ (.bool nb)).setCell ⟨g + 1, 1, none⟩ (.slice bo bl2 bc)).setCell ⟨g + 1, 2, none⟩ (.slice bO bL2 bC))).cell? ⟨g + 1, 2, none⟩ = some (.slice bO bL2 bC) := by rw [← hX6]; exact qb.cells.2.2
  have HX6 : Hid (X6 = (((w5.setCell ⟨g + 1, 0, none⟩ (.bool nb)).setCell ⟨g + 1, 1, none⟩ (.slice bo bl2 bc)).setCell ⟨g + 1, 2, none⟩ (.slice bO bL2 bC))) := hX6
  clear hX6
  go_wp2_with fail
  rw [← HX6.out]
  clear HX6 y0 y1 y2 f0 f1 f2 rqa0 rqa1 rqa2 rqb0 rqb1 rqb2
  clear ua
  have ua := ua2.below (Nat.le_refl _) hb
  clear va
  have va := va2.below (Nat.le_refl _) hb
  clear ub
  have ub := ub2.below (Nat.le_refl _) hb
  clear vb
  have vb := vb2.below (Nat.le_refl _) hb
  have HU : Hid (Num w (.slice ao al2 ac) xa2 ∧ Num w (.slice aO aL2 aC) ya2 ∧ Num w (.slice bo bl2 bc) xb2 ∧ Num w (.slice bO bL2 bC) yb2) := ⟨ua2, va2, ub2, vb2⟩
  clear ua2 va2 ub2 vb2
  refine (lend3 na ao aO al2 ac aL2 aC xa2 ya2 _ ua va (Nat.le_trans HLA.out (by decide)) (Nat.le_trans HLa.out (by decide))).mono ?_
  rintro e w7 ⟨u, v, rfl, ra, rb, _, b⟩
  obtain ⟨uo, ul, uc, rfl⟩ := ra.own.sl
  obtain ⟨vo, vl, vc, rfl⟩ := rb.own.sl
  replace ua := ua.below (Nat.le_refl _) b
  replace va := va.below (Nat.le_refl _) b
  replace ub := ub.below (Nat.le_refl _) b
  replace vb := vb.below (Nat.le_refl _) b
  replace qa := qa.below b
  replace qb := qb.below b
  replace hb := bstep hb b
  replace hsz := Nat.lt_of_lt_of_le hsz b.size
  clear b
  have hq0 : QCell (w7.alloc (.cells #[.bool false, .slice none 0 0, .slice none 0 0] 27)) w7.heap.size false (.slice none 0 0) (.slice none 0 0) := qcell_new _ rfl
  obtain ⟨W8, hW8⟩ : ∃ W, W = w7.alloc (.cells #[.bool na, .slice uo ul uc, .slice vo vl vc] 27) := ⟨_, rfl⟩
  have qu : QCell W8 (w7.heap.size) na (.slice uo ul uc) (.slice vo vl vc) := by rw [hW8]; exact qcell_new _ rfl
  have b : Below w7.heap.size w7 W8 := by rw [hW8]; exact belowA _ _
  obtain ⟨z0, z1, z2⟩ := hq0.cells
  have t0 := hq0.thaw 0
  have t1 := hq0.thaw 1
  have t2 := hq0.thaw 2
  clear hq0
  replace ua := ua.below (Nat.le_refl _) b
  replace va := va.below (Nat.le_refl _) b
  replace ub := ub.below (Nat.le_refl _) b
  replace vb := vb.below (Nat.le_refl _) b
  replace ra := ra.below b
  replace rb := rb.below b
  replace qa := qa.below b
  replace qb := qb.below b
  replace hb := bstep hb b
  replace hsz := Nat.lt_of_lt_of_le hsz b.size
  clear b
  have rqa0 : (w7.alloc (.cells #[.bool na, .slice uo ul uc, .slice vo vl vc] 27)).cell? ⟨g, 0, none⟩ = some (.bool na) := by rw [← hW8]; exact qa.cells.1
  have rqa1 : (w7.alloc (.cells #[.bool na, .slice uo ul uc, .slice vo vl vc] 27)).cell? ⟨g, 1, none⟩ = some (.slice ao al2 ac) := by rw [← hW8]; exact qa.cells.2.1
  have rqa2 : (w7.alloc (.cells #[.bool na, .slice uo ul uc, .slice vo vl vc] 27)).cell? ⟨g, 2, none⟩ = some (.slice aO aL2 aC) := by rw [← hW8]; exact qa.cells.2.2
  have rqb0 : (w7.alloc (.cells #[.bool na, .slice uo ul uc, .slice vo vl vc] 27)).cell? ⟨g + 1, 0, none⟩ = some (.bool nb) := by rw [← hW8]; exact qb.cells.1
  have rqb1 : (w7.alloc (.cells #[.bool na, .slice uo ul uc, .slice vo vl vc] 27)).cell? ⟨g + 1, 1, none⟩ = some (.slice bo bl2 bc) := by rw [← hW8]; exact qb.cells.2.1
  have rqb2 : (w7.alloc (.cells #[.bool na, .slice uo ul uc, .slice vo vl vc] 27)).cell? ⟨g + 1, 2, none⟩ = some (.slice bO bL2 bC) := by rw [← hW8]; exact qb.cells.2.2
  have rqu0 : (w7.alloc (.cells #[.bool na, .slice uo ul uc, .slice vo vl vc] 27)).cell? ⟨w7.heap.size, 0, none⟩ = some (.bool na) := by rw [← hW8]; exact qu.cells.1
  have rqu1 : (w7.alloc (.cells #[.bool na, .slice uo ul uc, .slice vo vl vc] 27)).cell? ⟨w7.heap.size, 1, none⟩ = some (.slice uo ul uc) := by rw [← hW8]; exact qu.cells.2.1
  have rqu2 : (w7.alloc (.cells #[.bool na, .slice uo ul uc, .slice vo vl vc] 27)).cell? ⟨w7.heap.size, 2, none⟩ = some (.slice vo vl vc) := by rw [← hW8]; exact qu.cells.2.2
  obtain ⟨v8, hv8⟩ : ∃ v, v = w7.heap.size := ⟨_, rfl⟩
  rw [← hv8] at qu
  have HW8 : Hid (W8 = w7.alloc (.cells #[.bool na, .slice uo ul uc, .slice vo vl vc] 27)) := hW8
  have Hv8 : Hid (v8 = w7.heap.size) := hv8
  clear hW8 hv8
  go_wp2_with fail
  rw [← HW8.out, ← Hv8.out]
  clear HW8 Hv8 z0 t0 z1 t1 z2 t2 rqa0 rqa1 rqa2 rqb0 rqb1 rqb2 rqu0 rqu1 rqu2 
  refine (lend3 nb bo bO bl2 bc bL2 bC xb2 yb2 _ ub vb (Nat.le_trans HLB.out (by decide)) (Nat.le_trans HLb.out (by decide))).mono ?_
  rintro e w9 ⟨u, v, rfl, rc, rd, _, b⟩
  obtain ⟨eo, el, ec, rfl⟩ := rc.own.sl
  obtain ⟨fo, fl, fc, rfl⟩ := rd.own.sl
  replace ua := ua.below (Nat.le_refl _) b
  replace va := va.below (Nat.le_refl _) b
  replace ub := ub.below (Nat.le_refl _) b
  replace vb := vb.below (Nat.le_refl _) b
  replace ra := ra.below b
  replace rb := rb.below b
  replace qa := qa.below b
  replace qb := qb.below b
  replace qu := qu.below b
  replace hb := bstep hb b
  replace hsz := Nat.lt_of_lt_of_le hsz b.size
  clear b
  have hq0 : QCell (w9.alloc (.cells #[.bool false, .slice none 0 0, .slice none 0 0] 27)) w9.heap.size false (.slice none 0 0) (.slice none 0 0) := qcell_new _ rfl
  obtain ⟨W10, hW10⟩ : ∃ W, W = w9.alloc (.cells #[.bool nb, .slice eo el ec, .slice fo fl fc] 27) := ⟨_, rfl⟩
  have qv : QCell W10 (w9.heap.size) nb (.slice eo el ec) (.slice fo fl fc) := by rw [hW10]; exact qcell_new _ rfl
  have b : Below w9.heap.size w9 W10 := by rw [hW10]; exact belowA _ _
  obtain ⟨z0, z1, z2⟩ := hq0.cells
  have t0 := hq0.thaw 0
  have t1 := hq0.thaw 1
  have t2 := hq0.thaw 2
  clear hq0
  replace ua := ua.below (Nat.le_refl _) b
  replace va := va.below (Nat.le_refl _) b
  replace ub := ub.below (Nat.le_refl _) b
  replace vb := vb.below (Nat.le_refl _) b
  replace ra := ra.below b
  replace rb := rb.below b
  replace rc := rc.below b
  replace rd := rd.below b
  replace qa := qa.below b
  replace qb := qb.below b
  replace qu := qu.below b
  replace hb := bstep hb b
  replace hsz := Nat.lt_of_lt_of_le hsz b.size
  clear b
  have rqa0 : (w9.alloc (.cells #[.bool nb, .slice eo el ec, .slice fo fl fc] 27)).cell? ⟨g, 0, none⟩ = some (.bool na) := by rw [← hW10]; exact qa.cells.1
  have rqa1 : (w9.alloc (.cells #[.bool nb, .slice eo el ec, .slice fo fl fc] 27)).cell? ⟨g, 1, none⟩ = some (.slice ao al2 ac) := by rw [← hW10]; exact qa.cells.2.1
  have rqa2 : (w9.alloc (.cells #[.bool nb, .slice eo el ec, .slice fo fl fc] 27)).cell? ⟨g, 2, none⟩ = some (.slice aO aL2 aC) := by rw [← hW10]; exact qa.cells.2.2
  have rqb0 : (w9.alloc (.cells #[.bool nb, .slice eo el ec, .slice fo fl fc] 27)).cell? ⟨g + 1, 0, none⟩ = some (.bool nb) := by rw [← hW10]; exact qb.cells.1
  have rqb1 : (w9.alloc (.cells #[.bool nb, .slice eo el ec, .slice fo fl fc] 27)).cell? ⟨g + 1, 1, none⟩ = some (.slice bo bl2 bc) := by rw [← hW10]; exact qb.cells.2.1
  have rqb2 : (w9.alloc (.cells #[.bool nb, .slice eo el ec, .slice fo fl fc] 27)).cell? ⟨g + 1, 2, none⟩ = some (.slice bO bL2 bC) := by rw [← hW10]; exact qb.cells.2.2
  have rqu0 : (w9.alloc (.cells #[.bool nb, .slice eo el ec, .slice fo fl fc] 27)).cell? ⟨v8, 0, none⟩ = some (.bool na) := by rw [← hW10]; exact qu.cells.1
  have rqu1 : (w9.alloc (.cells #[.bool nb, .slice eo el ec, .slice fo fl fc] 27)).cell? ⟨v8, 1, none⟩ = some (.slice uo ul uc) := by rw [← hW10]; exact qu.cells.2.1
  have rqu2 : (w9.alloc (.cells #[.bool nb, .slice eo el ec, .slice fo fl fc] 27)).cell? ⟨v8, 2, none⟩ = some (.slice vo vl vc) := by rw [← hW10]; exact qu.cells.2.2
  have rqv0 : (w9.alloc (.cells #[.bool nb, .slice eo el ec, .slice fo fl fc] 27)).cell? ⟨w9.heap.size, 0, none⟩ = some (.bool nb) := by rw [← hW10]; exact qv.cells.1
  have rqv1 : (w9.alloc (.cells #[.bool nb, .slice eo el ec, .slice fo fl fc] 27)).cell? ⟨w9.heap.size, 1, none⟩ = some (.slice eo el ec) := by rw [← hW10]; exact qv.cells.2.1
  have rqv2 : (w9.alloc (.cells #[.bool nb, .slice eo el ec, .slice fo fl fc] 27)).cell? ⟨w9.heap.size, 2, none⟩ = some (.slice fo fl fc) := by rw [← hW10]; exact qv.cells.2.2
  obtain ⟨v10, hv10⟩ : ∃ v, v = w9.heap.size := ⟨_, rfl⟩
  rw [← hv10] at qv
  have HW10 : Hid (W10 = w9.alloc (.cells #[.bool nb, .slice eo el ec, .slice fo fl fc] 27)) := hW10
  have Hv10 : Hid (v10 = w9.heap.size) := hv10
  clear hW10 hv10
  go_wp2_with fail
  rw [← HW10.out, ← Hv10.out]
  clear HW10 Hv10 z0 t0 z1 t1 z2 t2 rqa0 rqa1 rqa2 rqb0 rqb1 rqb2 rqu0 rqu1 rqu2 rqv0 rqv1 rqv2 
  have hX : RV W10 (.agg #[.bool na, .slice ao al2 ac, .slice aO aL2 aC]) (zv na (val xa2)) (val ya2) := RV.of ua va HLA.out HLa.out
  have hY : RV W10 (.agg #[.bool nb, .slice bo bl2 bc, .slice bO bL2 bC]) (zv nb (val xb2)) (val yb2) := RV.of ub vb HLB.out HLb.out
  have hA : RV W10 (.agg #[.bool na, .slice uo ul uc, .slice vo vl vc]) (zv na (val xa2)) (val ya2) := RV.of ra.own.num rb.own.num HLA.out HLa.out
  have hB : RV W10 (.agg #[.bool nb, .slice eo el ec, .slice fo fl fc]) (zv nb (val xb2)) (val yb2) := RV.of rc.own.num rd.own.num HLB.out HLb.out
  clear ua va ub vb
  generalize zv na (val xa2) = p at *
  generalize val ya2 = q at *
  generalize zv nb (val xb2) = r at *
  generalize val yb2 = k at *
  obtain ⟨B0, hB0e⟩ : ∃ B, B = W10.heap.size := ⟨_, rfl⟩
  have hB0 : B0 ≤ W10.heap.size := Nat.le_of_eq hB0e
  have HWB : Hid (w.heap.size ≤ B0) := by show _ ≤ _; rw [hB0e]; exact hb.size
  have HRA : Hid (∀ k, (.slice uo ul uc : Value).ownBlock = some k → k < B0) := fun k e => by rw [hB0e]; exact (ra.own.block k e).2
  have HRB : Hid (∀ k, (.slice vo vl vc : Value).ownBlock = some k → k < B0) := fun k e => by rw [hB0e]; exact (rb.own.block k e).2
  have HRC : Hid (∀ k, (.slice eo el ec : Value).ownBlock = some k → k < B0) := fun k e => by rw [hB0e]; exact (rc.own.block k e).2
  have HRD : Hid (∀ k, (.slice fo fl fc : Value).ownBlock = some k → k < B0) := fun k e => by rw [hB0e]; exact (rd.own.block k e).2
  clear hB0e
  have F0 := fun W (h0 : RV W (.agg #[.bool na, .slice uo ul uc, .slice vo vl vc]) p q) (h1 : RV W (.agg #[.bool nb, .slice eo el ec, .slice fo fl fc]) r k) => aSimpF h0 h1
  have R0 := fun W (h0 : RV W (.agg #[.bool na, .slice ao al2 ac, .slice aO aL2 aC]) p q) (h1 : RV W (.agg #[.bool nb, .slice bo bl2 bc, .slice bO bL2 bC]) r k) => aSimpR h0 h1
  have HL0 : Hid _ := ln_simp hX hY
  have F1 := fun W (h0 : RV W (.agg #[.bool nb, .slice eo el ec, .slice fo fl fc]) r k) (h1 : RV W (.agg #[.bool na, .slice uo ul uc, .slice vo vl vc]) p q) => aSimpF h0 h1
  have R1 := fun W (h0 : RV W (.agg #[.bool nb, .slice bo bl2 bc, .slice bO bL2 bC]) r k) (h1 : RV W (.agg #[.bool na, .slice ao al2 ac, .slice aO aL2 aC]) p q) => aSimpR h0 h1
  have HL1 : Hid _ := ln_simp hY hX
  unfold TEx at F0 R0 F1 R1
  generalize zS (rq p q) (rq r k) = s0 at *
  generalize zE (rq p q) (rq r k) = e0 at *
  generalize zM (rq p q) (rq r k) = m0 at *
  generalize zD (rq p q) (rq r k) = d0 at *
  obtain ⟨l0, hl0⟩ : ∃ l, l = m0.length := ⟨_, rfl⟩
  obtain ⟨L0, hL0⟩ : ∃ l, l = d0.length := ⟨_, rfl⟩
  simp only [← hl0, ← hL0] at F0 R0
  clear hl0 hL0
  generalize zS (rq r k) (rq p q) = s1 at *
  generalize zE (rq r k) (rq p q) = e1 at *
  generalize zM (rq r k) (rq p q) = m1 at *
  generalize zD (rq r k) (rq p q) = d1 at *
  obtain ⟨l1, hl1⟩ : ∃ l, l = m1.length := ⟨_, rfl⟩
  obtain ⟨L1, hL1⟩ : ∃ l, l = d1.length := ⟨_, rfl⟩
  simp only [← hl1, ← hL1] at F1 R1
  clear hl1 hL1
  refine (F0 _ hA hB).mono ?_
  rintro e w11 ⟨f0o, f0c, g0o, g0c, rfl, hf0, hg0, pf0, b⟩
  clear F0
  replace hf0 := hf0.mono hB0
  replace hg0 := hg0.mono hB0
  replace ra := ra.below b
  replace rb := rb.below b
  replace rc := rc.below b
  replace rd := rd.below b
  replace hX := hX.below b
  replace hY := hY.below b
  replace hA := hA.below b
  replace hB := hB.below b
  replace hB0 := Nat.le_trans hB0 b.size
  replace qa := qa.below b
  replace qb := qb.below b
  replace qu := qu.below b
  replace qv := qv.below b
  replace hb := bstep hb b
  replace hsz := Nat.lt_of_lt_of_le hsz b.size
  clear b
  have hq0 : QCell (w11.alloc (.cells #[.bool false, .slice none 0 0, .slice none 0 0] 27)) w11.heap.size false (.slice none 0 0) (.slice none 0 0) := qcell_new _ rfl
  obtain ⟨W12, hW12⟩ : ∃ W, W = w11.alloc (.cells #[.bool s0, .slice f0o l0 f0c, .slice g0o L0 g0c] 27) := ⟨_, rfl⟩
  have qs : QCell W12 (w11.heap.size) s0 (.slice f0o l0 f0c) (.slice g0o L0 g0c) := by rw [hW12]; exact qcell_new _ rfl
  have b : Below w11.heap.size w11 W12 := by rw [hW12]; exact belowA _ _
  obtain ⟨z0, z1, z2⟩ := hq0.cells
  have t0 := hq0.thaw 0
  have t1 := hq0.thaw 1
  have t2 := hq0.thaw 2
  clear hq0
  replace ra := ra.below b
  replace rb := rb.below b
  replace rc := rc.below b
  replace rd := rd.below b
  replace hX := hX.below b
  replace hY := hY.below b
  replace hA := hA.below b
  replace hB := hB.below b
  replace hB0 := Nat.le_trans hB0 b.size
  replace hf0 := hf0.below b
  replace hg0 := hg0.below b
  replace qa := qa.below b
  replace qb := qb.below b
  replace qu := qu.below b
  replace qv := qv.below b
  replace hb := bstep hb b
  replace hsz := Nat.lt_of_lt_of_le hsz b.size
  clear b
  have rqa0 : (w11.alloc (.cells #[.bool s0, .slice f0o l0 f0c, .slice g0o L0 g0c] 27)).cell? ⟨g, 0, none⟩ = some (.bool na) := by rw [← hW12]; exact qa.cells.1
  have rqa1 : (w11.alloc (.cells #[.bool s0, .slice f0o l0 f0c, .slice g0o L0 g0c] 27)).cell? ⟨g, 1, none⟩ = some (.slice ao al2 ac) := by rw [← hW12]; exact qa.cells.2.1
  have rqa2 : (w11.alloc (.cells #[.bool s0, .slice f0o l0 f0c, .slice g0o L0 g0c] 27)).cell? ⟨g, 2, none⟩ = some (.slice aO aL2 aC) := by rw [← hW12]; exact qa.cells.2.2
  have rqb0 : (w11.alloc (.cells #[.bool s0, .slice f0o l0 f0c, .slice g0o L0 g0c] 27)).cell? ⟨g + 1, 0, none⟩ = some (.bool nb) := by rw [← hW12]; exact qb.cells.1
  have rqb1 : (w11.alloc (.cells #[.bool s0, .slice f0o l0 f0c, .slice g0o L0 g0c] 27)).cell? ⟨g + 1, 1, none⟩ = some (.slice bo bl2 bc) := by rw [← hW12]; exact qb.cells.2.1
  have rqb2 : (w11.alloc (.cells #[.bool s0, .slice f0o l0 f0c, .slice g0o L0 g0c] 27)).cell? ⟨g + 1, 2, none⟩ = some (.slice bO bL2 bC) := by rw [← hW12]; exact qb.cells.2.2
  have rqu0 : (w11.alloc (.cells #[.bool s0, .slice f0o l0 f0c, .slice g0o L0 g0c] 27)).cell? ⟨v8, 0, none⟩ = some (.bool na) := by rw [← hW12]; exact qu.cells.1
  have rqu1 : (w11.alloc (.cells #[.bool s0, .slice f0o l0 f0c, .slice g0o L0 g0c] 27)).cell? ⟨v8, 1, none⟩ = some (.slice uo ul uc) := by rw [← hW12]; exact qu.cells.2.1
  have rqu2 : (w11.alloc (.cells #[.bool s0, .slice f0o l0 f0c, .slice g0o L0 g0c] 27)).cell? ⟨v8, 2, none⟩ = some (.slice vo vl vc) := by rw [← hW12]; exact qu.cells.2.2
  have rqv0 : (w11.alloc (.cells #[.bool s0, .slice f0o l0 f0c, .slice g0o L0 g0c] 27)).cell? ⟨v10, 0, none⟩ = some (.bool nb) := by rw [← hW12]; exact qv.cells.1
  have rqv1 : (w11.alloc (.cells #[.bool s0, .slice f0o l0 f0c, .slice g0o L0 g0c] 27)).cell? ⟨v10, 1, none⟩ = some (.slice eo el ec) := by rw [← hW12]; exact qv.cells.2.1
  have rqv2 : (w11.alloc (.cells #[.bool s0, .slice f0o l0 f0c, .slice g0o L0 g0c] 27)).cell? ⟨v10, 2, none⟩ = some (.slice fo fl fc) := by rw [← hW12]; exact qv.cells.2.2
  have rqs0 : (w11.alloc (.cells #[.bool s0, .slice f0o l0 f0c, .slice g0o L0 g0c] 27)).cell? ⟨w11.heap.size, 0, none⟩ = some (.bool s0) := by rw [← hW12]; exact qs.cells.1
  have rqs1 : (w11.alloc (.cells #[.bool s0, .slice f0o l0 f0c, .slice g0o L0 g0c] 27)).cell? ⟨w11.heap.size, 1, none⟩ = some (.slice f0o l0 f0c) := by rw [← hW12]; exact qs.cells.2.1
  have rqs2 : (w11.alloc (.cells #[.bool s0, .slice f0o l0 f0c, .slice g0o L0 g0c] 27)).cell? ⟨w11.heap.size, 2, none⟩ = some (.slice g0o L0 g0c) := by rw [← hW12]; exact qs.cells.2.2
  obtain ⟨v12, hv12⟩ : ∃ v, v = w11.heap.size := ⟨_, rfl⟩
  rw [← hv12] at qs
  have HW12 : Hid (W12 = w11.alloc (.cells #[.bool s0, .slice f0o l0 f0c, .slice g0o L0 g0c] 27)) := hW12
  have Hv12 : Hid (v12 = w11.heap.size) := hv12
  clear hW12 hv12
  go_wp2_with fail
  rw [← HW12.out, ← Hv12.out]
  clear HW12 Hv12 z0 t0 z1 t1 z2 t2 rqa0 rqa1 rqa2 rqb0 rqb1 rqb2 rqu0 rqu1 rqu2 rqv0 rqv1 rqv2 rqs0 rqs1 rqs2 
  refine (F1 _ hB hA).mono ?_
  rintro e w13 ⟨f1o, f1c, g1o, g1c, rfl, hf1, hg1, pf1, b⟩
  clear F1
  have p1 := apart_later hf0 hf1 (Nat.le_refl _)
  have p2 := apart_later hf0 hg1 (Nat.le_refl _)
  have p3 := apart_later hg0 hf1 (Nat.le_refl _)
  have p4 := apart_later hg0 hg1 (Nat.le_refl _)
  replace hf1 := hf1.mono hB0
  replace hg1 := hg1.mono hB0
  replace ra := ra.below b
  replace rb := rb.below b
  replace rc := rc.below b
  replace rd := rd.below b
  replace hX := hX.below b
  replace hY := hY.below b
  replace hA := hA.below b
  replace hB := hB.below b
  replace hB0 := Nat.le_trans hB0 b.size
  replace hf0 := hf0.below b
  replace hg0 := hg0.below b
  replace qa := qa.below b
  replace qb := qb.below b
  replace qu := qu.below b
  replace qv := qv.below b
  replace qs := qs.below b
  replace hb := bstep hb b
  replace hsz := Nat.lt_of_lt_of_le hsz b.size
  clear b
  have hq0 : QCell (w13.alloc (.cells #[.bool false, .slice none 0 0, .slice none 0 0] 27)) w13.heap.size false (.slice none 0 0) (.slice none 0 0) := qcell_new _ rfl
  obtain ⟨W14, hW14⟩ : ∃ W, W = w13.alloc (.cells #[.bool s1, .slice f1o l1 f1c, .slice g1o L1 g1c] 27) := ⟨_, rfl⟩
  have qt : QCell W14 (w13.heap.size) s1 (.slice f1o l1 f1c) (.slice g1o L1 g1c) := by rw [hW14]; exact qcell_new _ rfl
  have b : Below w13.heap.size w13 W14 := by rw [hW14]; exact belowA _ _
  obtain ⟨z0, z1, z2⟩ := hq0.cells
  have t0 := hq0.thaw 0
  have t1 := hq0.thaw 1
  have t2 := hq0.thaw 2
  clear hq0
  replace ra := ra.below b
  replace rb := rb.below b
  replace rc := rc.below b
  replace rd := rd.below b
  replace hX := hX.below b
  replace hY := hY.below b
  replace hA := hA.below b
  replace hB := hB.below b
  replace hB0 := Nat.le_trans hB0 b.size
  replace hf0 := hf0.below b
  replace hg0 := hg0.below b
  replace hf1 := hf1.below b
  replace hg1 := hg1.below b
  replace qa := qa.below b
  replace qb := qb.below b
  replace qu := qu.below b
  replace qv := qv.below b
  replace qs := qs.below b
  replace hb := bstep hb b
  replace hsz := Nat.lt_of_lt_of_le hsz b.size
  clear b
  have rqa0 : (w13.alloc (.cells #[.bool s1, .slice f1o l1 f1c, .slice g1o L1 g1c] 27)).cell? ⟨g, 0, none⟩ = some (.bool na) := by rw [← hW14]; exact qa.cells.1
  have rqa1 : (w13.alloc (.cells #[.bool s1, .slice f1o l1 f1c, .slice g1o L1 g1c] 27)).cell? ⟨g, 1, none⟩ = some (.slice ao al2 ac) := by rw [← hW14]; exact qa.cells.2.1
  have rqa2 : (w13.alloc (.cells #[.bool s1, .slice f1o l1 f1c, .slice g1o L1 g1c] 27)).cell? ⟨g, 2, none⟩ = some (.slice aO aL2 aC) := by rw [← hW14]; exact qa.cells.2.2
  have rqb0 : (w13.alloc (.cells #[.bool s1, .slice f1o l1 f1c, .slice g1o L1 g1c] 27)).cell? ⟨g + 1, 0, none⟩ = some (.bool nb) := by rw [← hW14]; exact qb.cells.1
  have rqb1 : (w13.alloc (.cells #[.bool s1, .slice f1o l1 f1c, .slice g1o L1 g1c] 27)).cell? ⟨g + 1, 1, none⟩ = some (.slice bo bl2 bc) := by rw [← hW14]; exact qb.cells.2.1
  have rqb2 : (w13.alloc (.cells #[.bool s1, .slice f1o l1 f1c, .slice g1o L1 g1c] 27)).cell? ⟨g + 1, 2, none⟩ = some (.slice bO bL2 bC) := by rw [← hW14]; exact qb.cells.2.2
  have rqu0 : (w13.alloc (.cells #[.bool s1, .slice f1o l1 f1c, .slice g1o L1 g1c] 27)).cell? ⟨v8, 0, none⟩ = some (.bool na) := by rw [← hW14]; exact qu.cells.1
  have rqu1 : (w13.alloc (.cells #[.bool s1, .slice f1o l1 f1c, .slice g1o L1 g1c] 27)).cell? ⟨v8, 1, none⟩ = some (.slice uo ul uc) := by rw [← hW14]; exact qu.cells.2.1
  have rqu2 : (w13.alloc (.cells #[.bool s1, .slice f1o l1 f1c, .slice g1o L1 g1c] 27)).cell? ⟨v8, 2, none⟩ = some (.slice vo vl vc) := by rw [← hW14]; exact qu.cells.2.2
  have rqv0 : (w13.alloc (.cells #[.bool s1, .slice f1o l1 f1c, .slice g1o L1 g1c] 27)).cell? ⟨v10, 0, none⟩ = some (.bool nb) := by rw [← hW14]; exact qv.cells.1
  have rqv1 : (w13.alloc (.cells #[.bool s1, .slice f1o l1 f1c, .slice g1o L1 g1c] 27)).cell? ⟨v10, 1, none⟩ = some (.slice eo el ec) := by rw [← hW14]; exact qv.cells.2.1
  have rqv2 : (w13.alloc (.cells #[.bool s1, .slice f1o l1 f1c, .slice g1o L1 g1c] 27)).cell? ⟨v10, 2, none⟩ = some (.slice fo fl fc) := by rw [← hW14]; exact qv.cells.2.2
  have rqs0 : (w13.alloc (.cells #[.bool s1, .slice f1o l1 f1c, .slice g1o L1 g1c] 27)).cell? ⟨v12, 0, none⟩ = some (.bool s0) := by rw [← hW14]; exact qs.cells.1
  have rqs1 : (w13.alloc (.cells #[.bool s1, .slice f1o l1 f1c, .slice g1o L1 g1c] 27)).cell? ⟨v12, 1, none⟩ = some (.slice f0o l0 f0c) := by rw [← hW14]; exact qs.cells.2.1
  have rqs2 : (w13.alloc (.cells #[.bool s1, .slice f1o l1 f1c, .slice g1o L1 g1c] 27)).cell? ⟨v12, 2, none⟩ = some (.slice g0o L0 g0c) := by rw [← hW14]; exact qs.cells.2.2
  have rqt0 : (w13.alloc (.cells #[.bool s1, .slice f1o l1 f1c, .slice g1o L1 g1c] 27)).cell? ⟨w13.heap.size, 0, none⟩ = some (.bool s1) := by rw [← hW14]; exact qt.cells.1
  have rqt1 : (w13.alloc (.cells #[.bool s1, .slice f1o l1 f1c, .slice g1o L1 g1c] 27)).cell? ⟨w13.heap.size, 1, none⟩ = some (.slice f1o l1 f1c) := by rw [← hW14]; exact qt.cells.2.1
  have rqt2 : (w13.alloc (.cells #[.bool s1, .slice f1o l1 f1c, .slice g1o L1 g1c] 27)).cell? ⟨w13.heap.size, 2, none⟩ = some (.slice g1o L1 g1c) := by rw [← hW14]; exact qt.cells.2.2
  obtain ⟨v14, hv14⟩ : ∃ v, v = w13.heap.size := ⟨_, rfl⟩
  rw [← hv14] at qt
  have HW14 : Hid (W14 = w13.alloc (.cells #[.bool s1, .slice f1o l1 f1c, .slice g1o L1 g1c] 27)) := hW14
  have Hv14 : Hid (v14 = w13.heap.size) := hv14
  clear hW14 hv14
  go_wp2_with fail
  rw [← HW14.out, ← Hv14.out]
  clear HW14 Hv14 z0 t0 z1 t1 z2 t2 rqa0 rqa1 rqa2 rqb0 rqb1 rqb2 rqu0 rqu1 rqu2 rqv0 rqv1 rqv2 rqs0 rqs1 rqs2 rqt0 rqt1 rqt2 
  clear hA hB
  refine (R0 _ hX hY).mono ?_
  rintro e w15 ⟨x0o, x0c, y0o, y0c, rfl, hx0, hy0, _, b⟩
  clear R0
  replace hx0 := hx0.num
  replace hy0 := hy0.num
  replace ra := ra.below b
  replace rb := rb.below b
  replace rc := rc.below b
  replace rd := rd.below b
  replace hX := hX.below b
  replace hY := hY.below b
  replace hB0 := Nat.le_trans hB0 b.size
  replace hf0 := hf0.below b
  replace hg0 := hg0.below b
  replace hf1 := hf1.below b
  replace hg1 := hg1.below b
  replace qa := qa.below b
  replace qb := qb.below b
  replace qu := qu.below b
  replace qv := qv.below b
  replace qs := qs.below b
  replace qt := qt.below b
  replace hb := bstep hb b
  replace hsz := Nat.lt_of_lt_of_le hsz b.size
  clear b
  have hq0 : QCell (w15.alloc (.cells #[.bool false, .slice none 0 0, .slice none 0 0] 27)) w15.heap.size false (.slice none 0 0) (.slice none 0 0) := qcell_new _ rfl
  obtain ⟨W16, hW16⟩ : ∃ W, W = w15.alloc (.cells #[.bool s0, .slice x0o l0 x0c, .slice y0o L0 y0c] 27) := ⟨_, rfl⟩
  have qx : QCell W16 (w15.heap.size) s0 (.slice x0o l0 x0c) (.slice y0o L0 y0c) := by rw [hW16]; exact qcell_new _ rfl
  have b : Below w15.heap.size w15 W16 := by rw [hW16]; exact belowA _ _
  obtain ⟨z0, z1, z2⟩ := hq0.cells
  have t0 := hq0.thaw 0
  have t1 := hq0.thaw 1
  have t2 := hq0.thaw 2
  clear hq0
  replace ra := ra.below b
  replace rb := rb.below b
  replace rc := rc.below b
  replace rd := rd.below b
  replace hX := hX.below b
  replace hY := hY.below b
  replace hB0 := Nat.le_trans hB0 b.size
  replace hf0 := hf0.below b
  replace hg0 := hg0.below b
  replace hf1 := hf1.below b
  replace hg1 := hg1.below b
  replace hx0 := hx0.below (Nat.le_refl _) b
  replace hy0 := hy0.below (Nat.le_refl _) b
  replace qa := qa.below b
  replace qb := qb.below b
  replace qu := qu.below b
  replace qv := qv.below b
  replace qs := qs.below b
  replace qt := qt.below b
  replace hb := bstep hb b
  replace hsz := Nat.lt_of_lt_of_le hsz b.size
  clear b
  have rqa0 : (w15.alloc (.cells #[.bool s0, .slice x0o l0 x0c, .slice y0o L0 y0c] 27)).cell? ⟨g, 0, none⟩ = some (.bool na) := by rw [← hW16]; exact qa.cells.1
  have rqa1 : (w15.alloc (.cells #[.bool s0, .slice x0o l0 x0c, .slice y0o L0 y0c] 27)).cell? ⟨g, 1, none⟩ = some (.slice ao al2 ac) := by rw [← hW16]; exact qa.cells.2.1
  have rqa2 : (w15.alloc (.cells #[.bool s0, .slice x0o l0 x0c, .slice y0o L0 y0c] 27)).cell? ⟨g, 2, none⟩ = some (.slice aO aL2 aC) := by rw [← hW16]; exact qa.cells.2.2
  have rqb0 : (w15.alloc (.cells #[.bool s0, .slice x0o l0 x0c, .slice y0o L0 y0c] 27)).cell? ⟨g + 1, 0, none⟩ = some (.bool nb) := by rw [← hW16]; exact qb.cells.1
  have rqb1 : (w15.alloc (.cells #[.bool s0, .slice x0o l0 x0c, .slice y0o L0 y0c] 27)).cell? ⟨g + 1, 1, none⟩ = some (.slice bo bl2 bc) := by rw [← hW16]; exact qb.cells.2.1
  have rqb2 : (w15.alloc (.cells #[.bool s0, .slice x0o l0 x0c, .slice y0o L0 y0c] 27)).cell? ⟨g + 1, 2, none⟩ = some (.slice bO bL2 bC) := by rw [← hW16]; exact qb.cells.2.2
  have rqu0 : (w15.alloc (.cells #[.bool s0, .slice x0o l0 x0c, .slice y0o L0 y0c] 27)).cell? ⟨v8, 0, none⟩ = some (.bool na) := by rw [← hW16]; exact qu.cells.1
  have rqu1 : (w15.alloc (.cells #[.bool s0, .slice x0o l0 x0c, .slice y0o L0 y0c] 27)).cell? ⟨v8, 1, none⟩ = some (.slice uo ul uc) := by rw [← hW16]; exact qu.cells.2.1
  have rqu2 : (w15.alloc (.cells #[.bool s0, .slice x0o l0 x0c, .slice y0o L0 y0c] 27)).cell? ⟨v8, 2, none⟩ = some (.slice vo vl vc) := by rw [← hW16]; exact qu.cells.2.2
  have rqv0 : (w15.alloc (.cells #[.bool s0, .slice x0o l0 x0c, .slice y0o L0 y0c] 27)).cell? ⟨v10, 0, none⟩ = some (.bool nb) := by rw [← hW16]; exact qv.cells.1
  have rqv1 : (w15.alloc (.cells #[.bool s0, .slice x0o l0 x0c, .slice y0o L0 y0c] 27)).cell? ⟨v10, 1, none⟩ = some (.slice eo el ec) := by rw [← hW16]; exact qv.cells.2.1
  have rqv2 : (w15.alloc (.cells #[.bool s0, .slice x0o l0 x0c, .slice y0o L0 y0c] 27)).cell? ⟨v10, 2, none⟩ = some (.slice fo fl fc) := by rw [← hW16]; exact qv.cells.2.2
  have rqs0 : (w15.alloc (.cells #[.bool s0, .slice x0o l0 x0c, .slice y0o L0 y0c] 27)).cell? ⟨v12, 0, none⟩ = some (.bool s0) := by rw [← hW16]; exact qs.cells.1
  have rqs1 : (w15.alloc (.cells #[.bool s0, .slice x0o l0 x0c, .slice y0o L0 y0c] 27)).cell? ⟨v12, 1, none⟩ = some (.slice f0o l0 f0c) := by rw [← hW16]; exact qs.cells.2.1
  have rqs2 : (w15.alloc (.cells #[.bool s0, .slice x0o l0 x0c, .slice y0o L0 y0c] 27)).cell? ⟨v12, 2, none⟩ = some (.slice g0o L0 g0c) := by rw [← hW16]; exact qs.cells.2.2
  have rqt0 : (w15.alloc (.cells #[.bool s0, .slice x0o l0 x0c, .slice y0o L0 y0c] 27)).cell? ⟨v14, 0, none⟩ = some (.bool s1) := by rw [← hW16]; exact qt.cells.1
  have rqt1 : (w15.alloc (.cells #[.bool s0, .slice x0o l0 x0c, .slice y0o L0 y0c] 27)).cell? ⟨v14, 1, none⟩ = some (.slice f1o l1 f1c) := by rw [← hW16]; exact qt.cells.2.1
  have rqt2 : (w15.alloc (.cells #[.bool s0, .slice x0o l0 x0c, .slice y0o L0 y0c] 27)).cell? ⟨v14, 2, none⟩ = some (.slice g1o L1 g1c) := by rw [← hW16]; exact qt.cells.2.2
  have rqx0 : (w15.alloc (.cells #[.bool s0, .slice x0o l0 x0c, .slice y0o L0 y0c] 27)).cell? ⟨w15.heap.size, 0, none⟩ = some (.bool s0) := by rw [← hW16]; exact qx.cells.1
  have rqx1 : (w15.alloc (.cells #[.bool s0, .slice x0o l0 x0c, .slice y0o L0 y0c] 27)).cell? ⟨w15.heap.size, 1, none⟩ = some (.slice x0o l0 x0c) := by rw [← hW16]; exact qx.cells.2.1
  have rqx2 : (w15.alloc (.cells #[.bool s0, .slice x0o l0 x0c, .slice y0o L0 y0c] 27)).cell? ⟨w15.heap.size, 2, none⟩ = some (.slice y0o L0 y0c) := by rw [← hW16]; exact qx.cells.2.2
  obtain ⟨v16, hv16⟩ : ∃ v, v = w15.heap.size := ⟨_, rfl⟩
  rw [← hv16] at qx
  have HW16 : Hid (W16 = w15.alloc (.cells #[.bool s0, .slice x0o l0 x0c, .slice y0o L0 y0c] 27)) := hW16
  have Hv16 : Hid (v16 = w15.heap.size) := hv16
  clear hW16 hv16
  go_wp2_with fail
  rw [← HW16.out, ← Hv16.out]
  clear HW16 Hv16 z0 t0 z1 t1 z2 t2 rqa0 rqa1 rqa2 rqb0 rqb1 rqb2 rqu0 rqu1 rqu2 rqv0 rqv1 rqv2 rqs0 rqs1 rqs2 rqt0 rqt1 rqt2 rqx0 rqx1 rqx2 
  refine (R1 _ hY hX).mono ?_
  rintro e w17 ⟨x1o, x1c, y1o, y1c, rfl, hx1, hy1, _, b⟩
  clear R1
  replace hx1 := hx1.num
  replace hy1 := hy1.num
  replace ra := ra.below b
  replace rb := rb.below b
  replace rc := rc.below b
  replace rd := rd.below b
  replace hX := hX.below b
  replace hY := hY.below b
  replace hB0 := Nat.le_trans hB0 b.size
  replace hf0 := hf0.below b
  replace hg0 := hg0.below b
  replace hf1 := hf1.below b
  replace hg1 := hg1.below b
  replace hx0 := hx0.below (Nat.le_refl _) b
  replace hy0 := hy0.below (Nat.le_refl _) b
  replace qa := qa.below b
  replace qb := qb.below b
  replace qu := qu.below b
  replace qv := qv.below b
  replace qs := qs.below b
  replace qt := qt.below b
  replace qx := qx.below b
  replace hb := bstep hb b
  replace hsz := Nat.lt_of_lt_of_le hsz b.size
  clear b
  have hq0 : QCell (w17.alloc (.cells #[.bool false, .slice none 0 0, .slice none 0 0] 27)) w17.heap.size false (.slice none 0 0) (.slice none 0 0) := qcell_new _ rfl
  obtain ⟨W18, hW18⟩ : ∃ W, W = w17.alloc (.cells #[.bool s1, .slice x1o l1 x1c, .slice y1o L1 y1c] 27) := ⟨_, rfl⟩
  have qy : QCell W18 (w17.heap.size) s1 (.slice x1o l1 x1c) (.slice y1o L1 y1c) := by rw [hW18]; exact qcell_new _ rfl
  have b : Below w17.heap.size w17 W18 := by rw [hW18]; exact belowA _ _
  obtain ⟨z0, z1, z2⟩ := hq0.cells
  have t0 := hq0.thaw 0
  have t1 := hq0.thaw 1
  have t2 := hq0.thaw 2
  clear hq0
  replace ra := ra.below b
  replace rb := rb.below b
  replace rc := rc.below b
  replace rd := rd.below b
  replace hX := hX.below b
  replace hY := hY.below b
  replace hB0 := Nat.le_trans hB0 b.size
  replace hf0 := hf0.below b
  replace hg0 := hg0.below b
  replace hf1 := hf1.below b
  replace hg1 := hg1.below b
  replace hx0 := hx0.below (Nat.le_refl _) b
  replace hy0 := hy0.below (Nat.le_refl _) b
  replace hx1 := hx1.below (Nat.le_refl _) b
  replace hy1 := hy1.below (Nat.le_refl _) b
  replace qa := qa.below b
  replace qb := qb.below b
  replace qu := qu.below b
  replace qv := qv.below b
  replace qs := qs.below b
  replace qt := qt.below b
  replace qx := qx.below b
  replace hb := bstep hb b
  replace hsz := Nat.lt_of_lt_of_le hsz b.size
  clear b
  have rqa0 : (w17.alloc (.cells #[.bool s1, .slice x1o l1 x1c, .slice y1o L1 y1c] 27)).cell? ⟨g, 0, none⟩ = some (.bool na) := by rw [← hW18]; exact qa.cells.1
  have rqa1 : (w17.alloc (.cells #[.bool s1, .slice x1o l1 x1c, .slice y1o L1 y1c] 27)).cell? ⟨g, 1, none⟩ = some (.slice ao al2 ac) := by rw [← hW18]; exact qa.cells.2.1
  have rqa2 : (w17.alloc (.cells #[.bool s1, .slice x1o l1 x1c, .slice y1o L1 y1c] 27)).cell? ⟨g, 2, none⟩ = some (.slice aO aL2 aC) := by rw [← hW18]; exact qa.cells.2.2
  have rqb0 : (w17.alloc (.cells #[.bool s1, .slice x1o l1 x1c, .slice y1o L1 y1c] 27)).cell? ⟨g + 1, 0, none⟩ = some (.bool nb) := by rw [← hW18]; exact qb.cells.1
  have rqb1 : (w17.alloc (.cells #[.bool s1, .slice x1o l1 x1c, .slice y1o L1 y1c] 27)).cell? ⟨g + 1, 1, none⟩ = some (.slice bo bl2 bc) := by rw [← hW18]; exact qb.cells.2.1
  have rqb2 : (w17.alloc (.cells #[.bool s1, .slice x1o l1 x1c, .slice y1o L1 y1c] 27)).cell? ⟨g + 1, 2, none⟩ = some (.slice bO bL2 bC) := by rw [← hW18]; exact qb.cells.2.2
  have rqu0 : (w17.alloc (.cells #[.bool s1, .slice x1o l1 x1c, .slice y1o L1 y1c] 27)).cell? ⟨v8, 0, none⟩ = some (.bool na) := by rw [← hW18]; exact qu.cells.1
  have rqu1 : (w17.alloc (.cells #[.bool s1, .slice x1o l1 x1c, .slice y1o L1 y1c] 27)).cell? ⟨v8, 1, none⟩ = some (.slice uo ul uc) := by rw [← hW18]; exact qu.cells.2.1
  have rqu2 : (w17.alloc (.cells #[.bool s1, .slice x1o l1 x1c, .slice y1o L1 y1c] 27)).cell? ⟨v8, 2, none⟩ = some (.slice vo vl vc) := by rw [← hW18]; exact qu.cells.2.2
  have rqv0 : (w17.alloc (.cells #[.bool s1, .slice x1o l1 x1c, .slice y1o L1 y1c] 27)).cell? ⟨v10, 0, none⟩ = some (.bool nb) := by rw [← hW18]; exact qv.cells.1
  have rqv1 : (w17.alloc (.cells #[.bool s1, .slice x1o l1 x1c, .slice y1o L1 y1c] 27)).cell? ⟨v10, 1, none⟩ = some (.slice eo el ec) := by rw [← hW18]; exact qv.cells.2.1
  have rqv2 : (w17.alloc (.cells #[.bool s1, .slice x1o l1 x1c, .slice y1o L1 y1c] 27)).cell? ⟨v10, 2, none⟩ = some (.slice fo fl fc) := by rw [← hW18]; exact qv.cells.2.2
  have rqs0 : (w17.alloc (.cells #[.bool s1, .slice x1o l1 x1c, .slice y1o L1 y1c] 27)).cell? ⟨v12, 0, none⟩ = some (.bool s0) := by rw [← hW18]; exact qs.cells.1
  have rqs1 : (w17.alloc (.cells #[.bool s1, .slice x1o l1 x1c, .slice y1o L1 y1c] 27)).cell? ⟨v12, 1, none⟩ = some (.slice f0o l0 f0c) := by rw [← hW18]; exact qs.cells.2.1
  have rqs2 : (w17.alloc (.cells #[.bool s1, .slice x1o l1 x1c, .slice y1o L1 y1c] 27)).cell? ⟨v12, 2, none⟩ = some (.slice g0o L0 g0c) := by rw [← hW18]; exact qs.cells.2.2
  have rqt0 : (w17.alloc (.cells #[.bool s1, .slice x1o l1 x1c, .slice y1o L1 y1c] 27)).cell? ⟨v14, 0, none⟩ = some (.bool s1) := by rw [← hW18]; exact qt.cells.1
  have rqt1 : (w17.alloc (.cells #[.bool s1, .slice x1o l1 x1c, .slice y1o L1 y1c] 27)).cell? ⟨v14, 1, none⟩ = some (.slice f1o l1 f1c) := by rw [← hW18]; exact qt.cells.2.1
  have rqt2 : (w17.alloc (.cells #[.bool s1, .slice x1o l1 x1c, .slice y1o L1 y1c] 27)).cell? ⟨v14, 2, none⟩ = some (.slice g1o L1 g1c) := by rw [← hW18]; exact qt.cells.2.2
  have rqx0 : (w17.alloc (.cells #[.bool s1, .slice x1o l1 x1c, .slice y1o L1 y1c] 27)).cell? ⟨v16, 0, none⟩ = some (.bool s0) := by rw [← hW18]; exact qx.cells.1
  have rqx1 : (w17.alloc (.cells #[.bool s1, .slice x1o l1 x1c, .slice y1o L1 y1c] 27)).cell? ⟨v16, 1, none⟩ = some (.slice x0o l0 x0c) := by rw [← hW18]; exact qx.cells.2.1
  have rqx2 : (w17.alloc (.cells #[.bool s1, .slice x1o l1 x1c, .slice y1o L1 y1c] 27)).cell? ⟨v16, 2, none⟩ = some (.slice y0o L0 y0c) := by rw [← hW18]; exact qx.cells.2.2
  have rqy0 : (w17.alloc (.cells #[.bool s1, .slice x1o l1 x1c, .slice y1o L1 y1c] 27)).cell? ⟨w17.heap.size, 0, none⟩ = some (.bool s1) := by rw [← hW18]; exact qy.cells.1
  have rqy1 : (w17.alloc (.cells #[.bool s1, .slice x1o l1 x1c, .slice y1o L1 y1c] 27)).cell? ⟨w17.heap.size, 1, none⟩ = some (.slice x1o l1 x1c) := by rw [← hW18]; exact qy.cells.2.1
  have rqy2 : (w17.alloc (.cells #[.bool s1, .slice x1o l1 x1c, .slice y1o L1 y1c] 27)).cell? ⟨w17.heap.size, 2, none⟩ = some (.slice y1o L1 y1c) := by rw [← hW18]; exact qy.cells.2.2
  obtain ⟨v18, hv18⟩ : ∃ v, v = w17.heap.size := ⟨_, rfl⟩
  rw [← hv18] at qy
  have HW18 : Hid (W18 = w17.alloc (.cells #[.bool s1, .slice x1o l1 x1c, .slice y1o L1 y1c] 27)) := hW18
  have Hv18 : Hid (v18 = w17.heap.size) := hv18
  clear hW18 hv18
  go_wp2_with fail
  rw [← HW18.out, ← Hv18.out]
  clear HW18 Hv18 z0 t0 z1 t1 z2 t2 rqa0 rqa1 rqa2 rqb0 rqb1 rqb2 rqu0 rqu1 rqu2 rqv0 rqv1 rqv2 rqs0 rqs1 rqs2 rqt0 rqt1 rqt2 rqx0 rqx1 rqx2 rqy0 rqy1 rqy2 
  clear hX hY
  refine (same3 s0 f0o x0o g0o y0o l0 f0c x0c L0 g0c y0c m0 d0 _ hf0.num hx0 hg0.num hy0).mono ?_
  rintro e w19 ⟨rfl, b⟩
  replace ra := ra.below b
  replace rb := rb.below b
  replace rc := rc.below b
  replace rd := rd.below b
  replace hB0 := Nat.le_trans hB0 b.size
  replace hf0 := hf0.below b
  replace hg0 := hg0.below b
  replace hf1 := hf1.below b
  replace hg1 := hg1.below b
  replace hx0 := hx0.below (Nat.le_refl _) b
  replace hy0 := hy0.below (Nat.le_refl _) b
  replace hx1 := hx1.below (Nat.le_refl _) b
  replace hy1 := hy1.below (Nat.le_refl _) b
  replace qa := qa.below b
  replace qb := qb.below b
  replace qu := qu.below b
  replace qv := qv.below b
  replace qs := qs.below b
  replace qt := qt.below b
  replace qx := qx.below b
  replace qy := qy.below b
  replace hb := bstep hb b
  replace hsz := Nat.lt_of_lt_of_le hsz b.size
  clear b
  obtain ⟨cqa0, cqa1, cqa2⟩ := qa.cells
  obtain ⟨cqb0, cqb1, cqb2⟩ := qb.cells
  obtain ⟨cqu0, cqu1, cqu2⟩ := qu.cells
  obtain ⟨cqv0, cqv1, cqv2⟩ := qv.cells
  obtain ⟨cqs0, cqs1, cqs2⟩ := qs.cells
  obtain ⟨cqt0, cqt1, cqt2⟩ := qt.cells
  obtain ⟨cqx0, cqx1, cqx2⟩ := qx.cells
  obtain ⟨cqy0, cqy1, cqy2⟩ := qy.cells
  go_wp2_with fail
  clear cqa0 cqa1 cqa2 cqb0 cqb1 cqb2 cqu0 cqu1 cqu2 cqv0 cqv1 cqv2 cqs0 cqs1 cqs2 cqt0 cqt1 cqt2 cqx0 cqx1 cqx2 cqy0 cqy1 cqy2
  refine (same3 s1 f1o x1o g1o y1o l1 f1c x1c L1 g1c y1c m1 d1 _ hf1.num hx1 hg1.num hy1).mono ?_
  rintro e w20 ⟨rfl, b⟩
  replace ra := ra.below b
  replace rb := rb.below b
  replace rc := rc.below b
  replace rd := rd.below b
  replace hB0 := Nat.le_trans hB0 b.size
  replace hf0 := hf0.below b
  replace hg0 := hg0.below b
  replace hf1 := hf1.below b
  replace hg1 := hg1.below b
  replace hx0 := hx0.below (Nat.le_refl _) b
  replace hy0 := hy0.below (Nat.le_refl _) b
  replace hx1 := hx1.below (Nat.le_refl _) b
  replace hy1 := hy1.below (Nat.le_refl _) b
  replace qa := qa.below b
  replace qb := qb.below b
  replace qu := qu.below b
  replace qv := qv.below b
  replace qs := qs.below b
  replace qt := qt.below b
  replace qx := qx.below b
  replace qy := qy.below b
  replace hb := bstep hb b
  replace hsz := Nat.lt_of_lt_of_le hsz b.size
  clear b
  clear hx0 hy0 hx1 hy1
  obtain ⟨WO, hWO⟩ : ∃ W, W = w20.alloc (.cells #[.bool s0, .slice f0o l0 f0c, .slice g0o L0 g0c, .bool s1, .slice f1o l1 f1c, .slice g1o L1 g1c] 27) := ⟨_, rfl⟩
  have hrow : ∀ i, i < 2 → WO.cell? ⟨w20.heap.size, i * 3 + 1, none⟩ = some (two (.slice f0o l0 f0c) (.slice f1o l1 f1c) i) ∧ WO.cell? ⟨w20.heap.size, i * 3 + 2, none⟩ = some (two (.slice g0o L0 g0c) (.slice g1o L1 g1c) i) := by
    intro i hi
    rw [hWO, World.cell?_alloc_at _ _ _ _ rfl, World.cell?_alloc_at _ _ _ _ rfl]
    match i, hi with
    | 0, _ => exact ⟨rfl, rfl⟩
    | 1, _ => exact ⟨rfl, rfl⟩
  have b : Below w20.heap.size w20 WO := by rw [hWO]; exact belowA _ _
  obtain ⟨cqa0, cqa1, cqa2⟩ := qa.cells
  obtain ⟨cqb0, cqb1, cqb2⟩ := qb.cells
  obtain ⟨cqu0, cqu1, cqu2⟩ := qu.cells
  obtain ⟨cqv0, cqv1, cqv2⟩ := qv.cells
  obtain ⟨cqs0, cqs1, cqs2⟩ := qs.cells
  obtain ⟨cqt0, cqt1, cqt2⟩ := qt.cells
  obtain ⟨cqx0, cqx1, cqx2⟩ := qx.cells
  obtain ⟨cqy0, cqy1, cqy2⟩ := qy.cells
  have HWO : Hid (WO = w20.alloc (.cells #[.bool s0, .slice f0o l0 f0c, .slice g0o L0 g0c, .bool s1, .slice f1o l1 f1c, .slice g1o L1 g1c] 27)) := hWO
  clear hWO
  go_wp2_with fail
  rw [← HWO.out]
  clear HWO cqa0 cqa1 cqa2 cqb0 cqb1 cqb2 cqu0 cqu1 cqu2 cqv0 cqv1 cqv2 cqs0 cqs1 cqs2 cqt0 cqt1 cqt2 cqx0 cqx1 cqx2 cqy0 cqy1 cqy2
  replace ra := ra.below b
  replace rb := rb.below b
  replace rc := rc.below b
  replace rd := rd.below b
  replace hB0 := Nat.le_trans hB0 b.size
  replace hf0 := hf0.below b
  replace hg0 := hg0.below b
  replace hf1 := hf1.below b
  replace hg1 := hg1.below b
  replace qa := qa.below b
  replace qb := qb.below b
  replace qu := qu.below b
  replace qv := qv.below b
  replace qs := qs.below b
  replace qt := qt.below b
  replace qx := qx.below b
  replace qy := qy.below b
  replace hb := bstep hb b
  replace hsz := Nat.lt_of_lt_of_le hsz b.size
  clear b
  have hfam := fam4 hf0 hg0 hf1 hg1
  have hdist := dist4 pf0 p1 p2 p3 p4 pf1
  have hq := ownRats3 B0 _ 2 2 _ _ _ WO hB0 (by decide) (by decide) hrow (fun i hi => by match i, hi with | 0, _ => exact ⟨⟨_, _, _, rfl⟩, _, _, _, rfl⟩ | 1, _ => exact ⟨⟨_, _, _, rfl⟩, _, _, _, rfl⟩) hfam hdist (fun j hj => by
    match j, hj with
    | 0, _ => exact Nat.le_trans HL0.out.1 (by decide)
    | 1, _ => exact Nat.le_trans HL0.out.2 (by decide)
    | 2, _ => exact Nat.le_trans HL1.out.1 (by decide)
    | 3, _ => exact Nat.le_trans HL1.out.2 (by decide))
  refine hq.mono ?_
  rintro e wK ⟨rfl, hx⟩
  clear hq
  replace hb := hb.trans (hx.below (B := w.heap.size) hb.size (fun j k hj e => Nat.le_trans HWB.out ((hfam j hj).block k e).1))
  replace ra := ra.bex hx (apart_base9 hfam HRA.out)
  replace rb := rb.bex hx (apart_base9 hfam HRB.out)
  replace rc := rc.bex hx (apart_base9 hfam HRC.out)
  replace rd := rd.bex hx (apart_base9 hfam HRD.out)
  replace qa := qa.bexS hx hfam
  replace qb := qb.bexS hx hfam
  replace qu := qu.bexS hx hfam
  replace qv := qv.bexS hx hfam
  obtain ⟨ua, va, ub, vb⟩ := HU.out
  replace ua := ua.below (Nat.le_refl _) hb
  replace va := va.below (Nat.le_refl _) hb
  replace ub := ub.below (Nat.le_refl _) hb
  replace vb := vb.below (Nat.le_refl _) hb
  clear hx hfam hdist hrow hf0 hg0 hf1 hg1 pf0 p1 p2 p3 p4 pf1 hB0 hsz HU qs qt qx qy
  obtain ⟨cqa0, cqa1, cqa2⟩ := qa.cells
  obtain ⟨cqb0, cqb1, cqb2⟩ := qb.cells
  obtain ⟨cqu0, cqu1, cqu2⟩ := qu.cells
  obtain ⟨cqv0, cqv1, cqv2⟩ := qv.cells
  go_wp2_with fail
  clear cqa0 cqa1 cqa2 cqb0 cqb1 cqb2 cqu0 cqu1 cqu2 cqv0 cqv1 cqv2
  refine (kept3 _ na uo ao vo aO ul uc al2 ac vl vc aL2 aC xa2 ya2 _ ra rb ua va (Nat.le_trans HLA.out (by decide)) (Nat.le_trans HLa.out (by decide))).mono ?_
  rintro e w21 ⟨rfl, b⟩
  replace ra := ra.below b
  replace rb := rb.below b
  replace rc := rc.below b
  replace rd := rd.below b
  replace ua := ua.below (Nat.le_refl _) b
  replace va := va.below (Nat.le_refl _) b
  replace ub := ub.below (Nat.le_refl _) b
  replace vb := vb.below (Nat.le_refl _) b
  replace qa := qa.below b
  replace qb := qb.below b
  replace qu := qu.below b
  replace qv := qv.below b
  replace hb := bstep hb b
  clear b
  obtain ⟨cqa0, cqa1, cqa2⟩ := qa.cells
  obtain ⟨cqb0, cqb1, cqb2⟩ := qb.cells
  obtain ⟨cqu0, cqu1, cqu2⟩ := qu.cells
  obtain ⟨cqv0, cqv1, cqv2⟩ := qv.cells
  go_wp2_with fail
  clear cqa0 cqa1 cqa2 cqb0 cqb1 cqb2 cqu0 cqu1 cqu2 cqv0 cqv1 cqv2
  refine (kept3 _ nb eo bo fo bO el ec bl2 bc fl fc bL2 bC xb2 yb2 _ rc rd ub vb (Nat.le_trans HLB.out (by decide)) (Nat.le_trans HLb.out (by decide))).mono ?_
  rintro e w22 ⟨rfl, b⟩
  replace ra := ra.below b
  replace rb := rb.below b
  replace rc := rc.below b
  replace rd := rd.below b
  replace ua := ua.below (Nat.le_refl _) b
  replace va := va.below (Nat.le_refl _) b
  replace ub := ub.below (Nat.le_refl _) b
  replace vb := vb.below (Nat.le_refl _) b
  replace qa := qa.below b
  replace qb := qb.below b
  replace qu := qu.below b
  replace qv := qv.below b
  replace hb := bstep hb b
  clear b
  have HE : Hid (Below w.heap.size w w22) := hb
  clear hb qa qb qu qv ra rb rc rd ua va ub vb
  go_wp2
  go_ret
  exact ⟨rfl, HE.out⟩
end Go.Proofs.YtfnafgjnimfmjaaGreatDoor
