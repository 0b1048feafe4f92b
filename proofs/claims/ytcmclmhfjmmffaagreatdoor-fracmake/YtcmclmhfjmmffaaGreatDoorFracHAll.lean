/-
  Proved here: what New and Of of package frac, and the document's, answer, error or not, as one.
  Proved here: awake answers true.
-/
import Derived.Test.YtcmclmhfjmmffaaGreatDoorR3
import Derived.Test.YtcmclmhfjmmffaaGreatDoorFracUAll
import Derived.Test.YtcmclmhfjmmffaaGreatDoorFracV
import Derived.Test.YtcmclmhfjmmffaaGreatDoorFracGAll
namespace Go.Proofs.YtcmclmhfjmmffaaGreatDoor
open Go.RowKit

/-- The error's number, the sign, the limbs of a quotient; none of a quotient by 0. -/
def nE (q : Int) : Int := if q = 0 then 11 else 0
def nS (p q : Int) : Bool := if q = 0 then false else decide ((Rat.divInt p q).num < 0)
def nM (p q : Int) : List Nat := if q = 0 then [] else lim (Rat.divInt p q).num.natAbs
def nD (p q : Int) : List Nat := if q = 0 then [] else lim (Rat.divInt p q).den
/-- What is left, error or not. -/
def TE (w : World) (p q : Int) (e : Ending) (w' : World) : Prop :=
  ∃ mo mc dO dC, e = .returned (.tuple #[.agg #[.bool (nS p q), .slice mo (nM p q).length mc, .slice dO (nD p q).length dC], .int .i64 (nE q)]) ∧ Own w.heap.size 69 w' (.slice mo (nM p q).length mc) (nM p q) ∧ Own w.heap.size 69 w' (.slice dO (nD p q).length dC) (nD p q) ∧
    ((Value.slice mo (nM p q).length mc).ownBlock = none ∨ (Value.slice mo (nM p q).length mc).ownBlock ≠ (Value.slice dO (nD p q).length dC).ownBlock) ∧ Below w.heap.size w w'
theorem te_yes {w w' : World} {p q : Int} {e : Ending} (hq : q ≠ 0) (h : RTEnd w (Rat.divInt p q) e w') : TE w p q e w' := by
  obtain ⟨v, rfl, ⟨m, d, rfl, hm, hd, hap⟩, hb⟩ := h
  obtain ⟨mo, ml, mc, rfl⟩ := hm.sl
  obtain ⟨dO, dL, dC, rfl⟩ := hd.sl
  have e1 := (num_len hm.num).1
  have e2 := (num_len hd.num).1
  have g1 : nS p q = decide ((Rat.divInt p q).num < 0) := if_neg hq
  have g2 : nM p q = lim (Rat.divInt p q).num.natAbs := if_neg hq
  have g3 : nD p q = lim (Rat.divInt p q).den := if_neg hq
  have g4 : nE q = 0 := if_neg hq
  unfold TE
  rw [g1, g2, g3, g4, e1, e2]
  exact ⟨mo, mc, dO, dC, rfl, hm, hd, hap, hb⟩
theorem te_no {w w' : World} {p q : Int} {e : Ending} (hq : q = 0) (h : RNo w e w') : TE w p q e w' := by
  obtain ⟨rfl, hb⟩ := h
  have g1 : nS p q = false := if_pos hq
  have g2 : nM p q = [] := if_pos hq
  have g3 : nD p q = [] := if_pos hq
  have g4 : nE q = 11 := if_pos hq
  unfold TE
  rw [g1, g2, g3, g4]
  exact ⟨none, 0, none, 0, rfl, Own.of_nil _ _ _, Own.of_nil _ _ _, .inl rfl, hb⟩
theorem newF {a b : Value} {p q : Int} {w : World} (ha : INum w a p) (hb' : INum w b q) : Calls Tryz.prog 34 #[a, b] w fun e w' => TE w p q e w' := by
  by_cases hq : q = 0
  · exact (c_new_no ha hb' hq).mono fun _ _ h => te_no hq h
  · exact (c_new_yes ha hb' hq).mono fun _ _ h => te_yes hq h
theorem newR {a b : Value} {p q : Int} {w : World} (ha : IB w a p 300) (hb' : IB w b q 300) : Calls Tryz.prog 35 #[a, b] w fun e w' => TE w p q e w' := by
  by_cases hq : q = 0
  · exact (new3_no ha hb' hq).mono fun _ _ h => te_no hq h
  · exact (new3_yes ha hb' hq).mono fun _ _ h => te_yes hq h
theorem ofF {n d : Int} {w : World} (h1 : -9223372036854775808 ≤ n) (h2 : n ≤ 9223372036854775807) (h3 : -9223372036854775808 ≤ d) (h4 : d ≤ 9223372036854775807) : Calls Tryz.prog 36 #[.int .i64 n, .int .i64 d] w fun e w' => TE w n d e w' := by
  by_cases hq : d = 0
  · have h := c_fof_no (w := w) h1 h2
    rw [hq]
    exact h.mono fun _ _ h => te_no rfl h
  · exact (c_fof h1 h2 h3 h4 hq).mono fun _ _ h => te_yes hq h
theorem ofR {n d : Int} {w : World} (h1 : -9223372036854775808 ≤ n) (h2 : n ≤ 9223372036854775807) (h3 : -9223372036854775808 ≤ d) (h4 : d ≤ 9223372036854775807) : Calls Tryz.prog 37 #[.int .i64 n, .int .i64 d] w fun e w' => TE w n d e w' := by
  by_cases hq : d = 0
  · exact (of3_no h1 h2 h3 h4 hq).mono fun _ _ h => te_no hq h
  · exact (of3_yes h1 h2 h3 h4 hq).mono fun _ _ h => te_yes hq h
theorem nM_len {na nb : Bool} {A D L : Nat} (hA : A < 4294967296 ^ L) (hD : D < 4294967296 ^ L) : (nM (zv na A) (zv nb D)).length ≤ L ∧ (nD (zv na A) (zv nb D)).length ≤ L := by
  by_cases hq : zv nb D = 0
  · have g2 : nM (zv na A) (zv nb D) = [] := if_pos hq
    have g3 : nD (zv na A) (zv nb D) = [] := if_pos hq
    rw [g2, g3]; exact ⟨Nat.zero_le _, Nat.zero_le _⟩
  · have g2 : nM (zv na A) (zv nb D) = lim (Rat.divInt (zv na A) (zv nb D)).num.natAbs := if_neg hq
    have g3 : nD (zv na A) (zv nb D) = lim (Rat.divInt (zv na A) (zv nb D)).den := if_neg hq
    have hD0 : D ≠ 0 := fun e => by rw [e] at hq; cases nb <;> exact hq rfl
    obtain ⟨e1, e2⟩ := low_ref3 (na := na != nb) (A := A) hD0
    rw [g2, g3, ← div_signs, e1, e2, zv_abs]
    exact ⟨lim_len_le (Nat.lt_of_le_of_lt (Nat.div_le_self _ _) hA), lim_len_le (Nat.lt_of_le_of_lt (Nat.div_le_self _ _) hD)⟩
theorem nM_len_int {n d : Int} (h1 : -9223372036854775808 ≤ n) (h2 : n ≤ 9223372036854775807) (h3 : -9223372036854775808 ≤ d) (h4 : d ≤ 9223372036854775807) : (nM n d).length ≤ 2 ∧ (nD n d).length ≤ 2 := by
  have e : (4294967296 : Nat) ^ 2 = 18446744073709551616 := by decide
  have h := nM_len (na := decide (n < 0)) (nb := decide (d < 0)) (A := n.natAbs) (D := d.natAbs) (L := 2) (by rw [e]; omega) (by rw [e]; omega)
  rw [zv_self, zv_self] at h
  exact h
/-- What is left, by its parts. -/
def TEx (w : World) (s : Bool) (er : Int) (xm xd : List Nat) (e : Ending) (w' : World) : Prop :=
  ∃ mo mc dO dC, e = .returned (.tuple #[.agg #[.bool s, .slice mo xm.length mc, .slice dO xd.length dC], .int .i64 er]) ∧ Own w.heap.size 69 w' (.slice mo xm.length mc) xm ∧ Own w.heap.size 69 w' (.slice dO xd.length dC) xd ∧
    ((Value.slice mo xm.length mc).ownBlock = none ∨ (Value.slice mo xm.length mc).ownBlock ≠ (Value.slice dO xd.length dC).ownBlock) ∧ Below w.heap.size w w'
theorem TE.x {w w' : World} {p q : Int} {e : Ending} (h : TE w p q e w') : TEx w (nS p q) (nE q) (nM p q) (nD p q) e w' := h
/-- Two of something. -/
def two {α : Type} (a b : α) (i : Nat) : α := if i = 0 then a else b
theorem fam4 {B : Nat} {w : World} {m d m2 d2 : Value} {xm xd ym yd : List Nat} (h1 : Own B 69 w m xm) (h2 : Own B 69 w d xd) (h3 : Own B 69 w m2 ym) (h4 : Own B 69 w d2 yd) : Fam B w (prs (two m m2) (two d d2) 2) (fun j => [xm, xd, ym, yd].getD j []) := by
  intro j hj
  match j, hj with
  | 0, _ => exact h1
  | 1, _ => exact h2
  | 2, _ => exact h3
  | 3, _ => exact h4
  | n + 4, h => exact absurd h (by show ¬ n + 4 < 4; omega)
theorem dist4 {m d m2 d2 : Value} (h1 : m.ownBlock = none ∨ m.ownBlock ≠ d.ownBlock) (h2 : m.ownBlock = none ∨ m.ownBlock ≠ m2.ownBlock) (h3 : m.ownBlock = none ∨ m.ownBlock ≠ d2.ownBlock) (h4 : d.ownBlock = none ∨ d.ownBlock ≠ m2.ownBlock) (h5 : d.ownBlock = none ∨ d.ownBlock ≠ d2.ownBlock) (h6 : m2.ownBlock = none ∨ m2.ownBlock ≠ d2.ownBlock) : Dist (prs (two m m2) (two d d2) 2) := by
  intro i j hi hj hne
  match i, j, hi, hj, hne with
  | 0, 0, _, _, h => exact absurd rfl h
  | 0, 1, _, _, _ => exact h1
  | 0, 2, _, _, _ => exact h2
  | 0, 3, _, _, _ => exact h3
  | 1, 0, _, _, _ => exact apart_symm h1
  | 1, 1, _, _, h => exact absurd rfl h
  | 1, 2, _, _, _ => exact h4
  | 1, 3, _, _, _ => exact h5
  | 2, 0, _, _, _ => exact apart_symm h2
  | 2, 1, _, _, _ => exact apart_symm h4
  | 2, 2, _, _, h => exact absurd rfl h
  | 2, 3, _, _, _ => exact h6
  | 3, 0, _, _, _ => exact apart_symm h3
  | 3, 1, _, _, _ => exact apart_symm h5
  | 3, 2, _, _, _ => exact apart_symm h6
  | 3, 3, _, _, h => exact absurd rfl h
  | n + 4, _, h, _, _ => exact absurd h (by show ¬ n + 4 < 4; omega)
  | 0, n + 4, _, h, _ => exact absurd h (by show ¬ n + 4 < 4; omega)
  | 1, n + 4, _, h, _ => exact absurd h (by show ¬ n + 4 < 4; omega)
  | 2, n + 4, _, h, _ => exact absurd h (by show ¬ n + 4 < 4; omega)
  | 3, n + 4, _, h, _ => exact absurd h (by show ¬ n + 4 < 4; omega)
theorem from4 {m d m2 d2 v : Value} (h1 : v.ownBlock = none ∨ v.ownBlock ≠ m.ownBlock) (h2 : v.ownBlock = none ∨ v.ownBlock ≠ d.ownBlock) (h3 : v.ownBlock = none ∨ v.ownBlock ≠ m2.ownBlock) (h4 : v.ownBlock = none ∨ v.ownBlock ≠ d2.ownBlock) :
    ∀ j, j < (prs (two m m2) (two d d2) 2).length → (at_ (prs (two m m2) (two d d2) 2) j).ownBlock = none ∨ (at_ (prs (two m m2) (two d d2) 2) j).ownBlock ≠ v.ownBlock := by
  intro j hj
  match j, hj with
  | 0, _ => exact apart_symm h1
  | 1, _ => exact apart_symm h2
  | 2, _ => exact apart_symm h3
  | 3, _ => exact apart_symm h4
  | n + 4, h => exact absurd h (by show ¬ n + 4 < 4; omega)
theorem lim_len_any {N L : Nat} (h : N < 4294967296 ^ L) (hL : L ≤ 1099511627776) : (lim N).length ≤ 1099511627776 := Nat.le_trans (lim_len_le h) hL
theorem RoomL.bex {B : Nat} {gs : List Value} {w w' : World} {v : Value} {xs : List Nat} (h : RoomL B w v xs) (hb : Bex gs w w') (hd : ∀ j, j < gs.length → (at_ gs j).ownBlock = none ∨ (at_ gs j).ownBlock ≠ v.ownBlock) : RoomL B w' v xs := by
  obtain ⟨u, rfl, ho⟩ := h
  refine ⟨u, rfl, ho.bex hb ?_⟩
  have e : (cutTo u xs.length).ownBlock = u.ownBlock := by
    obtain ⟨uo, ul, uc, rfl⟩ := ho.sl
    cases uo <;> rfl
  rw [e] at hd
  exact hd
theorem ICell.bexT {B : Nat} {gs : List Value} {ys : Nat → List Nat} {w w' : World} {g : Nat} {n : Bool} {m : Value} (h : ICell w g n m) (hb : Bex gs w w') (hf : Fam B w gs ys) : ICell w' g n m := by
  have h' : w.heap[g]? = some (.cells #[.bool n, m] 25 (0, 0)) := h
  show w'.heap[g]? = some (.cells #[.bool n, m] 25 (0, 0))
  rw [hb.block g (Array.getElem?_eq_some_iff.1 h').1 (fun j hj e => ?_)]
  · exact h'
  · obtain ⟨o, l, c, hv⟩ := (hf j hj).sl
    have ho := hf j hj
    rw [hv] at ho e
    cases o with
    | none => cases e
    | some a =>
      obtain ⟨b, of, sp⟩ := a
      rcases ho.shape with ⟨hs, _⟩ | ⟨g2, cap, hs, _, _⟩
      · cases hs
      · simp only [Value.slice.injEq, Option.some.injEq, Addr.mk.injEq] at hs
        obtain ⟨⟨rfl, rfl, rfl⟩, _, _⟩ := hs
        have eb : b = g := Option.some.inj e
        obtain ⟨_, _, cur, hh, _⟩ := ho.heap
        rw [eb, h'] at hh
        simp only [Option.some.injEq, Obj.cells.injEq] at hh
        exact absurd hh.2.1 (by decide)
end Go.Proofs.YtcmclmhfjmmffaaGreatDoor

namespace Go.Proofs.YtcmclmhfjmmffaaGreatDoor
open Go.RowKit

theorem ROwn.see {B : Nat} {w : World} {v : Value} {r : Rat} {L : Nat} (h : ROwn B w v r) (hs : RSz r L) (hL : L ≤ 1000000) : ∃ n ao al ac bo bl bc, v = .agg #[.bool n, .slice ao al ac, .slice bo bl bc] ∧ RNum w (.agg #[.bool n, .slice ao al ac, .slice bo bl bc]) r L := by
  have h1 := h.std
  have h2 := h1.num hs hL
  obtain ⟨n, ao, al, ac, bo, bl, bc, rfl, _⟩ := h1
  exact ⟨n, ao, al, ac, bo, bl, bc, rfl, h2⟩
set_option maxRecDepth 100000 in
set_option maxHeartbeats 6400000 in
theorem l_awake {w : World} : Calls Tryz.prog 7 #[] w fun e w' => e = .returned (.bool true) ∧ Below w.heap.size w w' := by
  obtain ⟨X, hX⟩ : ∃ X, X = Rat.divInt 6 (-4) := ⟨_, rfl⟩
  obtain ⟨Y, hY⟩ : ∃ X, X = Rat.divInt 5 6 := ⟨_, rfl⟩
  have HX : Hid (X = Rat.divInt 6 (-4)) := hX
  have HY : Hid (Y = Rat.divInt 5 6) := hY
  have sX : RSz X 1 := by rw [hX]; exact ⟨⟨by decide⟩, ⟨by decide⟩⟩
  have sY : RSz Y 1 := by rw [hY]; exact ⟨⟨by decide⟩, ⟨by decide⟩⟩
  have hXY : X + Y = Rat.divInt (6 * 6 + 5 * (-4)) ((-4) * 6) := by rw [hX, hY]; exact Rat.divInt_add_divInt 6 5 (by decide) (by decide)
  have sC : RSz (X + Y) 1 := by rw [hXY]; exact ⟨⟨by decide⟩, ⟨by decide⟩⟩
  obtain ⟨C, hC⟩ : ∃ C, C = X + Y := ⟨_, rfl⟩
  have HC : Hid (X + Y = C) := hC.symm
  rw [← hC] at sC
  have tX : rt X = ⟨#[45, 51, 47, 50]⟩ := by rw [hX]; kernel_rfl
  have tC : rt C = ⟨#[45, 50, 47, 51]⟩ := by rw [hC, hXY]; kernel_rfl
  have t0 : rt 0 = ⟨#[48]⟩ := by kernel_rfl
  have cXY : cmpQ X Y = -1 := by rw [hX, hY]; kernel_rfl
  have HTX : Hid (rt X = ⟨#[45, 51, 47, 50]⟩) := tX
  have HTC : Hid (rt C = ⟨#[45, 50, 47, 51]⟩) := tC
  have HT0 : Hid (rt 0 = ⟨#[48]⟩) := t0
  have HXY : Hid (cmpQ X Y = -1) := cXY
  clear hX hY hC hXY tX tC t0 cXY
  go_enter Tryz.func7, Tryz.ntmps7
  go_wp2_with fail
  have hb : Below w.heap.size w w := Below.refl _ _
  have hsz : 0 ≤ w.heap.size := Nat.zero_le _
  have hq := c_fof (n := 6) (d := -4) (w := w) (by decide) (by decide) (by decide) (by decide) (by decide)
  rw [← HX.out] at hq
  refine (hq).mono ?_
  rintro e w2 ⟨v, rfl, hv, b⟩
  clear hq
  obtain ⟨na, ao, al, ac, aO, aL, aC, rfl, ia⟩ := hv.see sX (by decide)
  clear hv
  replace hb := bstep hb b
  clear b
  obtain ⟨W3, hW3⟩ : ∃ W, W = w2.alloc (.cells #[.bool na, .slice ao al ac, .slice aO aL aC] 27) := ⟨_, rfl⟩
  have qa : QCell W3 (w2.heap.size) na (.slice ao al ac) (.slice aO aL aC) := by rw [hW3]; exact (qcell_new _ rfl)
  have b : Below w2.heap.size w2 W3 := by rw [hW3]; exact belowA _ _
  replace ia := ia.below b
  replace hb := bstep hb b
  clear b
  have rqa0 : (w2.alloc (.cells #[.bool na, .slice ao al ac, .slice aO aL aC] 27)).cell? ⟨w2.heap.size, 0, none⟩ = some (.bool na) := by rw [← hW3]; exact qa.cells.1
  have rqa1 : (w2.alloc (.cells #[.bool na, .slice ao al ac, .slice aO aL aC] 27)).cell? ⟨w2.heap.size, 1, none⟩ = some (.slice ao al ac) := by rw [← hW3]; exact qa.cells.2.1
  have rqa2 : (w2.alloc (.cells #[.bool na, .slice ao al ac, .slice aO aL aC] 27)).cell? ⟨w2.heap.size, 2, none⟩ = some (.slice aO aL aC) := by rw [← hW3]; exact qa.cells.2.2
  obtain ⟨v3, hv3⟩ : ∃ v, v = w2.heap.size := ⟨_, rfl⟩
  rw [← hv3] at qa
  have HW3 : Hid (W3 = w2.alloc (.cells #[.bool na, .slice ao al ac, .slice aO aL aC] 27)) := hW3
  have Hv3 : Hid (v3 = w2.heap.size) := hv3
  clear hW3 hv3
  go_wp2_with fail
  rw [← HW3.out, ← Hv3.out]
  clear HW3 Hv3 rqa0 rqa1 rqa2
  have hq := c_parse56 (w := W3)
  rw [← HY.out] at hq
  refine (hq).mono ?_
  rintro e w4 ⟨v, rfl, hv, b⟩
  clear hq
  obtain ⟨nb, bo, bl, bc, bO, bL, bC, rfl, ib⟩ := hv.see sY (by decide)
  clear hv
  replace ia := ia.below b
  replace qa := qa.below b
  replace hb := bstep hb b
  clear b
  obtain ⟨W5, hW5⟩ : ∃ W, W = w4.alloc (.cells #[.bool nb, .slice bo bl bc, .slice bO bL bC] 27) := ⟨_, rfl⟩
  have qb : QCell W5 (w4.heap.size) nb (.slice bo bl bc) (.slice bO bL bC) := by rw [hW5]; exact (qcell_new _ rfl)
  have b : Below w4.heap.size w4 W5 := by rw [hW5]; exact belowA _ _
  replace ia := ia.below b
  replace ib := ib.below b
  replace qa := qa.below b
  replace hb := bstep hb b
  clear b
  have rqa0 : (w4.alloc (.cells #[.bool nb, .slice bo bl bc, .slice bO bL bC] 27)).cell? ⟨v3, 0, none⟩ = some (.bool na) := by rw [← hW5]; exact qa.cells.1
  have rqa1 : (w4.alloc (.cells #[.bool nb, .slice bo bl bc, .slice bO bL bC] 27)).cell? ⟨v3, 1, none⟩ = some (.slice ao al ac) := by rw [← hW5]; exact qa.cells.2.1
  have rqa2 : (w4.alloc (.cells #[.bool nb, .slice bo bl bc, .slice bO bL bC] 27)).cell? ⟨v3, 2, none⟩ = some (.slice aO aL aC) := by rw [← hW5]; exact qa.cells.2.2
  have rqb0 : (w4.alloc (.cells #[.bool nb, .slice bo bl bc, .slice bO bL bC] 27)).cell? ⟨w4.heap.size, 0, none⟩ = some (.bool nb) := by rw [← hW5]; exact qb.cells.1
  have rqb1 : (w4.alloc (.cells #[.bool nb, .slice bo bl bc, .slice bO bL bC] 27)).cell? ⟨w4.heap.size, 1, none⟩ = some (.slice bo bl bc) := by rw [← hW5]; exact qb.cells.2.1
  have rqb2 : (w4.alloc (.cells #[.bool nb, .slice bo bl bc, .slice bO bL bC] 27)).cell? ⟨w4.heap.size, 2, none⟩ = some (.slice bO bL bC) := by rw [← hW5]; exact qb.cells.2.2
  obtain ⟨v5, hv5⟩ : ∃ v, v = w4.heap.size := ⟨_, rfl⟩
  rw [← hv5] at qb
  have HW5 : Hid (W5 = w4.alloc (.cells #[.bool nb, .slice bo bl bc, .slice bO bL bC] 27)) := hW5
  have Hv5 : Hid (v5 = w4.heap.size) := hv5
  clear hW5 hv5
  go_wp2_with fail
  rw [← HW5.out, ← Hv5.out]
  clear HW5 Hv5 rqa0 rqa1 rqa2 rqb0 rqb1 rqb2
  have hq := c_radd ia ib (by decide)
  rw [HC.out] at hq
  refine (hq).mono ?_
  rintro e w6 ⟨v, rfl, hv, b⟩
  clear hq
  obtain ⟨nc, co, cl, cc, cO, cL, cC, rfl, ic⟩ := hv.see sC (by decide)
  clear hv
  replace ia := ia.below b
  replace ib := ib.below b
  replace qa := qa.below b
  replace qb := qb.below b
  replace hb := bstep hb b
  clear b
  obtain ⟨W7, hW7⟩ : ∃ W, W = w6.alloc (.cells #[.bool nc, .slice co cl cc, .slice cO cL cC] 27) := ⟨_, rfl⟩
  have qc : QCell W7 (w6.heap.size) nc (.slice co cl cc) (.slice cO cL cC) := by rw [hW7]; exact (qcell_new _ rfl)
  have b : Below w6.heap.size w6 W7 := by rw [hW7]; exact belowA _ _
  replace ia := ia.below b
  replace ib := ib.below b
  replace ic := ic.below b
  replace qa := qa.below b
  replace qb := qb.below b
  replace hb := bstep hb b
  clear b
  have rqa0 : (w6.alloc (.cells #[.bool nc, .slice co cl cc, .slice cO cL cC] 27)).cell? ⟨v3, 0, none⟩ = some (.bool na) := by rw [← hW7]; exact qa.cells.1
  have rqa1 : (w6.alloc (.cells #[.bool nc, .slice co cl cc, .slice cO cL cC] 27)).cell? ⟨v3, 1, none⟩ = some (.slice ao al ac) := by rw [← hW7]; exact qa.cells.2.1
  have rqa2 : (w6.alloc (.cells #[.bool nc, .slice co cl cc, .slice cO cL cC] 27)).cell? ⟨v3, 2, none⟩ = some (.slice aO aL aC) := by rw [← hW7]; exact qa.cells.2.2
  have rqb0 : (w6.alloc (.cells #[.bool nc, .slice co cl cc, .slice cO cL cC] 27)).cell? ⟨v5, 0, none⟩ = some (.bool nb) := by rw [← hW7]; exact qb.cells.1
  have rqb1 : (w6.alloc (.cells #[.bool nc, .slice co cl cc, .slice cO cL cC] 27)).cell? ⟨v5, 1, none⟩ = some (.slice bo bl bc) := by rw [← hW7]; exact qb.cells.2.1
  have rqb2 : (w6.alloc (.cells #[.bool nc, .slice co cl cc, .slice cO cL cC] 27)).cell? ⟨v5, 2, none⟩ = some (.slice bO bL bC) := by rw [← hW7]; exact qb.cells.2.2
  have rqc0 : (w6.alloc (.cells #[.bool nc, .slice co cl cc, .slice cO cL cC] 27)).cell? ⟨w6.heap.size, 0, none⟩ = some (.bool nc) := by rw [← hW7]; exact qc.cells.1
  have rqc1 : (w6.alloc (.cells #[.bool nc, .slice co cl cc, .slice cO cL cC] 27)).cell? ⟨w6.heap.size, 1, none⟩ = some (.slice co cl cc) := by rw [← hW7]; exact qc.cells.2.1
  have rqc2 : (w6.alloc (.cells #[.bool nc, .slice co cl cc, .slice cO cL cC] 27)).cell? ⟨w6.heap.size, 2, none⟩ = some (.slice cO cL cC) := by rw [← hW7]; exact qc.cells.2.2
  obtain ⟨v7, hv7⟩ : ∃ v, v = w6.heap.size := ⟨_, rfl⟩
  rw [← hv7] at qc
  have HW7 : Hid (W7 = w6.alloc (.cells #[.bool nc, .slice co cl cc, .slice cO cL cC] 27)) := hW7
  have Hv7 : Hid (v7 = w6.heap.size) := hv7
  clear hW7 hv7
  go_wp2_with fail
  rw [← HW7.out, ← Hv7.out]
  clear HW7 Hv7 rqa0 rqa1 rqa2 rqb0 rqb1 rqb2 rqc0 rqc1 rqc2
  have hq := c_rtext ia (by decide)
  rw [HTX.out] at hq
  refine (hq).mono ?_
  rintro e w8 ⟨rfl, b⟩
  clear hq
  replace ia := ia.below b
  replace ib := ib.below b
  replace ic := ic.below b
  replace qa := qa.below b
  replace qb := qb.below b
  replace qc := qc.below b
  replace hb := bstep hb b
  clear b
  obtain ⟨cqa0, cqa1, cqa2⟩ := qa.cells
  obtain ⟨cqb0, cqb1, cqb2⟩ := qb.cells
  obtain ⟨cqc0, cqc1, cqc2⟩ := qc.cells
  go_wp2_with fail
  clear cqa0 cqa1 cqa2 cqb0 cqb1 cqb2 cqc0 cqc1 cqc2
  have hq := c_rtext ic (by decide)
  rw [HTC.out] at hq
  refine (hq).mono ?_
  rintro e w9 ⟨rfl, b⟩
  clear hq
  replace ia := ia.below b
  replace ib := ib.below b
  replace ic := ic.below b
  replace qa := qa.below b
  replace qb := qb.below b
  replace qc := qc.below b
  replace hb := bstep hb b
  clear b
  obtain ⟨cqa0, cqa1, cqa2⟩ := qa.cells
  obtain ⟨cqb0, cqb1, cqb2⟩ := qb.cells
  obtain ⟨cqc0, cqc1, cqc2⟩ := qc.cells
  go_wp2_with fail
  clear cqa0 cqa1 cqa2 cqb0 cqb1 cqb2 cqc0 cqc1 cqc2
  have hq := c_rsum none 0 0 0 (fun _ => 0) 0 w9 (fun h => absurd h (by decide)) (fun i hi => absurd hi (by omega)) (by decide)
  rw [show rsum (fun _ => 0) 0 = 0 from rfl] at hq
  refine (hq).mono ?_
  rintro e w10 ⟨v, rfl, hv, b⟩
  clear hq
  obtain ⟨nz, zo, zl, zc, zO, zL, zC, rfl, iz⟩ := hv.see RSz.zero (by decide)
  clear hv
  replace ia := ia.below b
  replace ib := ib.below b
  replace ic := ic.below b
  replace qa := qa.below b
  replace qb := qb.below b
  replace qc := qc.below b
  replace hb := bstep hb b
  clear b
  obtain ⟨cqa0, cqa1, cqa2⟩ := qa.cells
  obtain ⟨cqb0, cqb1, cqb2⟩ := qb.cells
  obtain ⟨cqc0, cqc1, cqc2⟩ := qc.cells
  go_wp2_with fail
  clear cqa0 cqa1 cqa2 cqb0 cqb1 cqb2 cqc0 cqc1 cqc2
  have hq := c_rtext iz (by decide)
  rw [HT0.out] at hq
  refine (hq).mono ?_
  rintro e w11 ⟨rfl, b⟩
  clear hq
  replace ia := ia.below b
  replace ib := ib.below b
  replace ic := ic.below b
  replace iz := iz.below b
  replace qa := qa.below b
  replace qb := qb.below b
  replace qc := qc.below b
  replace hb := bstep hb b
  clear b
  obtain ⟨cqa0, cqa1, cqa2⟩ := qa.cells
  obtain ⟨cqb0, cqb1, cqb2⟩ := qb.cells
  obtain ⟨cqc0, cqc1, cqc2⟩ := qc.cells
  go_wp2_with fail
  clear cqa0 cqa1 cqa2 cqb0 cqb1 cqb2 cqc0 cqc1 cqc2
  have hq := c_rcmp ia ib (by decide)
  rw [HXY.out] at hq
  refine (hq).mono ?_
  rintro e w12 ⟨rfl, b⟩
  clear hq
  replace ia := ia.below b
  replace ib := ib.below b
  replace ic := ic.below b
  replace iz := iz.below b
  replace qa := qa.below b
  replace qb := qb.below b
  replace qc := qc.below b
  replace hb := bstep hb b
  clear b
  have HE : Hid (Below w.heap.size w w12) := hb
  clear hb hsz qa qb qc ia ib ic iz
  go_wp2_with fail
  go_ret
  exact ⟨rfl, HE.out⟩
end Go.Proofs.YtcmclmhfjmmffaaGreatDoor
