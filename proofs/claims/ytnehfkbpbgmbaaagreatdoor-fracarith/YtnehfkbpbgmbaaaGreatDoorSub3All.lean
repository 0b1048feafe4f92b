/-
  Proved here: credenceref03's OwnRats of fractions whose numbers lie each in a row of its own: it answers true.
  Proved here: what strings.Cut answers of a text and a stroke.
  Proved here: what Parse of package frac answers of a written whole number, and of one with a stroke and digits behind it.
  Proved here: what Parse of package frac answers of a written fraction; what Of answers where the lower number is 0.
  Proved here: what New and Of of package frac, and the document's, answer, error or not, as one.
  Proved here: what Text of the document's layer 3 answers.
  Proved here: what Parse of package frac answers of any text (of at most 400 bytes).
  Proved here: what Sub, Norm and Div of the document's layer 3 answer, and Norm of package frac.
-/
import Derived.Test.YtnehfkbpbgmbaaaGreatDoorOwn3
import Derived.Test.YtnehfkbpbgmbaaaGreatDoorLate
import Derived.Test.YtnehfkbpbgmbaaaGreatDoorWholeX1
import Derived.Lib.SmallJoins
import Derived.Deep.AppendLies
import Derived.Test.YtnehfkbpbgmbaaaGreatDoorFracDAll
import Derived.Test.YtnehfkbpbgmbaaaGreatDoorRefOfAll
import Derived.Test.YtnehfkbpbgmbaaaGreatDoorFracE
import Derived.Test.YtnehfkbpbgmbaaaGreatDoorR3All
import Derived.Test.YtnehfkbpbgmbaaaGreatDoorR3C
import Derived.Test.YtnehfkbpbgmbaaaGreatDoorAdd3
namespace Go.Proofs.YtnehfkbpbgmbaaaGreatDoor
open Go.RowKit

/-- The numbers of some fractions, one behind the other. -/
def prs (ms ds : Nat → Value) : Nat → List Value
  | 0 => []
  | n + 1 => prs ms ds n ++ [ms n, ds n]
theorem cell_two_new (w : World) (a b : Value) (t : TypeId) : ∀ j u, [a, b][j]? = some u → (w.alloc (.cells #[a, b] t)).cell? ((⟨w.heap.size, 0, none⟩ : Addr).add j) = some u := by
  intro j u h
  rw [Addr.add_lit, Nat.zero_add, World.cell?_alloc_at _ _ _ _ rfl]
  match j, h with
  | 0, h => exact h
  | 1, h => exact h
  | n + 2, h => cases h
end Go.Proofs.YtnehfkbpbgmbaaaGreatDoor

namespace Go.Proofs.YtnehfkbpbgmbaaaGreatDoor
open Go.RowKit

end Go.Proofs.YtnehfkbpbgmbaaaGreatDoor

namespace Go.Proofs.YtnehfkbpbgmbaaaGreatDoor
open Go.RowKit

end Go.Proofs.YtnehfkbpbgmbaaaGreatDoor

namespace Go.Proofs.YtnehfkbpbgmbaaaGreatDoor
open Go.RowKit

end Go.Proofs.YtnehfkbpbgmbaaaGreatDoor

namespace Go.Proofs.YtnehfkbpbgmbaaaGreatDoor
open Go.RowKit

/-- The error's number, the sign, the limbs of a quotient; none of a quotient by 0. -/
def nE (q : Int) : Int := if q = 0 then 11 else 0
def nS (p q : Int) : Bool := if q = 0 then false else decide ((Rat.divInt p q).num < 0)
def nM (p q : Int) : List Nat := if q = 0 then [] else lim (Rat.divInt p q).num.natAbs
def nD (p q : Int) : List Nat := if q = 0 then [] else lim (Rat.divInt p q).den
/-- What is left, error or not. -/
def TE (w : World) (p q : Int) (e : Ending) (w' : World) : Prop :=
  ∃ mo mc dO dC, e = .returned (.tuple #[.agg #[.bool (nS p q), .slice mo (nM p q).length mc, .slice dO (nD p q).length dC], .int .i64 (nE q)]) ∧ Own w.heap.size 67 w' (.slice mo (nM p q).length mc) (nM p q) ∧ Own w.heap.size 67 w' (.slice dO (nD p q).length dC) (nD p q) ∧
    ((Value.slice mo (nM p q).length mc).ownBlock = none ∨ (Value.slice mo (nM p q).length mc).ownBlock ≠ (Value.slice dO (nD p q).length dC).ownBlock) ∧ Below w.heap.size w w'
theorem te_yes {w w' : World} {p q : Int} {e : Ending} (hq : q ≠ 0) (h : RTEnd w (Rat.divInt p q) e w') : TE w p q e w' := by
  obtain ⟨v, rfl, ⟨m, d, rfl, hm, hd, hap⟩, hb⟩ := h
  obtain ⟨mo, ml, mc, rfl⟩ := hm.sl
  obtain ⟨dO, dL, dC, rfl⟩ := hd.sl
  have e1 := (num_len hm.num).1
  have e2 := (num_len hd.num).1
  have g1 : nS p q = decide ((Rat.divInt p q).num < 0) := if_neg hq
  have g2 : nM p q = lim (Rat.divInt p q).num.natAbs := if_neg hq
  have g3 : nD p q = lim (Rat.divInt p q).den := if_neg hq
  have g4 : nE q = 0 := if_neg hq
  unfold TE
  rw [g1, g2, g3, g4, e1, e2]
  exact ⟨mo, mc, dO, dC, rfl, hm, hd, hap, hb⟩
theorem te_no {w w' : World} {p q : Int} {e : Ending} (hq : q = 0) (h : RNo w e w') : TE w p q e w' := by
  obtain ⟨rfl, hb⟩ := h
  have g1 : nS p q = false := if_pos hq
  have g2 : nM p q = [] := if_pos hq
  have g3 : nD p q = [] := if_pos hq
  have g4 : nE q = 11 := if_pos hq
  unfold TE
  rw [g1, g2, g3, g4]
  exact ⟨none, 0, none, 0, rfl, Own.of_nil _ _ _, Own.of_nil _ _ _, .inl rfl, hb⟩
theorem newF {a b : Value} {p q : Int} {w : World} (ha : INum w a p) (hb' : INum w b q) : Calls Tryz.prog 42 #[a, b] w fun e w' => TE w p q e w' := by
  by_cases hq : q = 0
  · exact (c_new_no ha hb' hq).mono fun _ _ h => te_no hq h
  · exact (c_new_yes ha hb' hq).mono fun _ _ h => te_yes hq h
/-- What is left, by its parts. -/
def TEx (w : World) (s : Bool) (er : Int) (xm xd : List Nat) (e : Ending) (w' : World) : Prop :=
  ∃ mo mc dO dC, e = .returned (.tuple #[.agg #[.bool s, .slice mo xm.length mc, .slice dO xd.length dC], .int .i64 er]) ∧ Own w.heap.size 67 w' (.slice mo xm.length mc) xm ∧ Own w.heap.size 67 w' (.slice dO xd.length dC) xd ∧
    ((Value.slice mo xm.length mc).ownBlock = none ∨ (Value.slice mo xm.length mc).ownBlock ≠ (Value.slice dO xd.length dC).ownBlock) ∧ Below w.heap.size w w'
theorem TE.x {w w' : World} {p q : Int} {e : Ending} (h : TE w p q e w') : TEx w (nS p q) (nE q) (nM p q) (nD p q) e w' := h
/-- Two of something. -/
def two {α : Type} (a b : α) (i : Nat) : α := if i = 0 then a else b
theorem RoomL.bex {B : Nat} {gs : List Value} {w w' : World} {v : Value} {xs : List Nat} (h : RoomL B w v xs) (hb : Bex gs w w') (hd : ∀ j, j < gs.length → (at_ gs j).ownBlock = none ∨ (at_ gs j).ownBlock ≠ v.ownBlock) : RoomL B w' v xs := by
  obtain ⟨u, rfl, ho⟩ := h
  refine ⟨u, rfl, ho.bex hb ?_⟩
  have e : (cutTo u xs.length).ownBlock = u.ownBlock := by
    obtain ⟨uo, ul, uc, rfl⟩ := ho.sl
    cases uo <;> rfl
  rw [e] at hd
  exact hd
end Go.Proofs.YtnehfkbpbgmbaaaGreatDoor

namespace Go.Proofs.YtnehfkbpbgmbaaaGreatDoor
open Go.RowKit
attribute [local go_sem ↓] Go.wp_at_zero Go.wp_at_succ

theorem Own.set3 {B e : Nat} {w : World} {v : Value} {xs : List Nat} (h : Own B e w v xs) {g : Nat} (hg : g < B) (a b c : Value) : Own B e (((w.setCell ⟨g, 0, none⟩ a).setCell ⟨g, 1, none⟩ b).setCell ⟨g, 2, none⟩ c) v xs := by
  have hne : v.ownBlock = none ∨ v.ownBlock ≠ some g := by
    rcases hu : v.ownBlock with _ | k
    · exact .inl rfl
    · exact .inr fun e => by have := (h.block k hu).1; have := Option.some.inj e; omega
  exact ((h.other a hne).other b hne).other c hne
theorem rnum_of {p : Int} {q L : Nat} {na : Bool} {ao aO : Option Addr} {al ac aL aC : Nat} {w : World} (ia : IB w (.agg #[.bool na, .slice ao al ac]) p L) (da : NB w (.slice aO aL aC) (q : Int) L) (h1L : 1 ≤ L) (hL : L ≤ 1000000) : RNum w (.agg #[.bool na, .slice ao al ac, .slice aO aL aC]) (rq p q) L := by
  have h1 := ia.sz
  have h2 := und_sz da.sz h1L
  have h3 := ia.num hL
  obtain ⟨o, l, c, ys, e, k1, k2, k3⟩ := da
  cases e
  exact ⟨p, q, ⟨_, _, _, _, _, _, _, ys, rfl, h3, k1, by omega, by omega⟩, rfl, h1, h2⟩
end Go.Proofs.YtnehfkbpbgmbaaaGreatDoor

namespace Go.Proofs.YtnehfkbpbgmbaaaGreatDoor
open Go.RowKit

def okT (t : ByteArray) : Prop := DigOk (tail t) ∧ 0 < (tail t).size
def okB (b : ByteArray) : Prop := DigOk b ∧ 0 < b.size
instance (t : ByteArray) : Decidable (okT t) := inferInstanceAs (Decidable (DigOk (tail t) ∧ 0 < (tail t).size))
instance (b : ByteArray) : Decidable (okB b) := inferInstanceAs (Decidable (DigOk b ∧ 0 < b.size))
theorem tex_done {w w3 : World} {g B : Nat} {s : Bool} {er : Int} {xm xd : List Nat} {mo dO : Option Addr} {mc dC : Nat} (hg : w.heap.size ≤ g) (hm : Own B 67 w3 (.slice mo xm.length mc) xm) (hd : Own B 67 w3 (.slice dO xd.length dC) xd)
    (hap : (Value.slice mo xm.length mc).ownBlock = none ∨ (Value.slice mo xm.length mc).ownBlock ≠ (Value.slice dO xd.length dC).ownBlock) (hgB : g < B) (hb : Below w.heap.size w w3) :
    TEx w s er xm xd (.returned (.tuple #[.agg #[.bool s, .slice mo xm.length mc, .slice dO xd.length dC], .int .i64 er])) (((w3.setCell ⟨g, 0, none⟩ (.bool s)).setCell ⟨g, 1, none⟩ (.slice mo xm.length mc)).setCell ⟨g, 2, none⟩ (.slice dO xd.length dC)) :=
  ⟨mo, mc, dO, dC, rfl, (hm.set3 hgB _ _ _).mono (by omega), (hd.set3 hgB _ _ _).mono (by omega), hap, iend3 hb hg⟩
end Go.Proofs.YtnehfkbpbgmbaaaGreatDoor

namespace Go.Proofs.YtnehfkbpbgmbaaaGreatDoor
open Go.RowKit
attribute [local go_sem ↓] Go.wp_at_zero Go.wp_at_succ

theorem ROwn.seeB {B : Nat} {w : World} {v : Value} {x : Rat} {L : Nat} (h : ROwn B w v x) (hs : RSz x L) : ∃ n ao al ac bo bl bc, v = .agg #[.bool n, .slice ao al ac, .slice bo bl bc] ∧ IB w (.agg #[.bool n, .slice ao al ac]) x.num L ∧ NB w (.slice bo bl bc) (x.den : Int) L := by
  obtain ⟨m, d, rfl, hm, hd, _⟩ := h
  obtain ⟨mo, ml, mc, rfl⟩ := hm.sl
  obtain ⟨dO, dL, dC, rfl⟩ := hd.sl
  have h2 := hs.den.len
  rw [Int.natAbs_natCast] at h2
  exact ⟨_, _, _, _, _, _, _, rfl, IOwn.ib ⟨_, rfl, hm⟩ hs.num.len, _, _, _, _, rfl, hd.num, h2, by rw [val_lim]⟩
set_option maxRecDepth 100000 in
set_option maxHeartbeats 6400000 in
theorem sub3 {p r : Int} {q k L M : Nat} (na : Bool) (ao aO : Option Addr) (al ac aL aC : Nat) (nb : Bool) (bo bO : Option Addr) (bl bc bL bC : Nat) {w : World} (ia : IB w (.agg #[.bool na, .slice ao al ac]) p L) (da : NB w (.slice aO aL aC) (q : Int) L) (h1L : 1 ≤ L) (ib : IB w (.agg #[.bool nb, .slice bo bl bc]) r M) (db : NB w (.slice bO bL bC) (k : Int) M) (h1M : 1 ≤ M) (hL : L + M ≤ 140) : Calls Tryz.prog 18 #[.agg #[.bool na, .slice ao al ac, .slice aO aL aC], .agg #[.bool nb, .slice bo bl bc, .slice bO bL bC]] w fun e w' => REnd w (rq p q - rq r k) e w' := by
  obtain ⟨Z, hZ⟩ : ∃ Z, Z = rq p q - rq r k := ⟨_, rfl⟩
  rw [← hZ]
  have hsy := rsz_neg ib.sz (und_sz db.sz h1M)
  obtain ⟨Y, hY⟩ : ∃ Y, Y = -rq r k := ⟨_, rfl⟩
  have HY : Hid (-rq r k = Y) := hY.symm
  rw [← hY] at hsy
  have HZ : Hid (rq p q + rq Y.num Y.den = Z) := by show _ = _; rw [hZ, rq_std, hY, Rat.sub_eq_add_neg]
  clear hZ hY
  obtain ⟨W1, hW1⟩ : ∃ W1, W1 = ((w.alloc (.cells #[.bool na, .slice ao al ac, .slice aO aL aC] 27)).alloc (.cells #[.bool nb, .slice bo bl bc, .slice bO bL bC] 27)).alloc (.cells #[.bool false, .slice none 0 0, .slice none 0 0] 27) := ⟨_, rfl⟩
  have qa : QCell W1 (w.heap.size) na (.slice ao al ac) (.slice aO aL aC) := by rw [hW1]; exact (qcell_step (qcell_step (qcell_new _ (by simp))))
  have qb : QCell W1 (w.heap.size + 1) nb (.slice bo bl bc) (.slice bO bL bC) := by rw [hW1]; exact (qcell_step (qcell_new _ (by simp)))
  have qR : QCell W1 (w.heap.size + 1 + 1) false (.slice none 0 0) (.slice none 0 0) := by rw [hW1]; exact (qcell_new _ (by simp))
  have hb : Below w.heap.size w W1 := by rw [hW1]; exact bstep (bstep (belowA w _) (belowA _ _)) (belowA _ _)
  have hsz : w.heap.size + 1 + 1 < W1.heap.size := by rw [hW1]; simp
  replace db := db.below hb
  replace da := da.below hb
  replace ia := ia.below hb
  replace ib := ib.below hb
  have HW1 : Hid (W1 = ((w.alloc (.cells #[.bool na, .slice ao al ac, .slice aO aL aC] 27)).alloc (.cells #[.bool nb, .slice bo bl bc, .slice bO bL bC] 27)).alloc (.cells #[.bool false, .slice none 0 0, .slice none 0 0] 27)) := hW1
  clear hW1
  go_enter Tryz.func18, Tryz.ntmps18
  go_wp2_with fail
  rw [← HW1.out]
  clear HW1
  obtain ⟨g, hg⟩ : ∃ g, g = w.heap.size := ⟨_, rfl⟩
  rw [← hg] at qa qb qR hsz ⊢
  have HG : Hid (g = w.heap.size) := hg
  clear hg
  refine region_late [(0, fun w' => w'.cell? ⟨g, 0, none⟩ = some (.bool na) ∧ w'.cell? ⟨g, 1, none⟩ = some (.slice ao al ac) ∧ w'.cell? ⟨g, 2, none⟩ = some (.slice aO aL aC)), (1, fun w' => w'.cell? ⟨g + 1, 0, none⟩ = some (.bool nb) ∧ w'.cell? ⟨g + 1, 1, none⟩ = some (.slice bo bl bc) ∧ w'.cell? ⟨g + 1, 2, none⟩ = some (.slice bO bL bC))] (by kernel_rfl) ?_
  have hHeld : AllL W1.drew [(0, fun w' => w'.cell? ⟨g, 0, none⟩ = some (.bool na) ∧ w'.cell? ⟨g, 1, none⟩ = some (.slice ao al ac) ∧ w'.cell? ⟨g, 2, none⟩ = some (.slice aO aL aC)), (1, fun w' => w'.cell? ⟨g + 1, 0, none⟩ = some (.bool nb) ∧ w'.cell? ⟨g + 1, 1, none⟩ = some (.slice bo bl bc) ∧ w'.cell? ⟨g + 1, 2, none⟩ = some (.slice bO bL bC))] := ⟨(show QCell W1.drew (g) na (.slice ao al ac) (.slice aO aL aC) from qa).cells, (show QCell W1.drew (g + 1) nb (.slice bo bl bc) (.slice bO bL bC) from qb).cells, trivial⟩
  refine late_tk 0 (v := .agg #[.bool na, .slice ao al ac, .slice aO aL aC]) rfl (List.Mem.head _) (Or.inl ⟨by rfl, ?_⟩) hHeld ?_
  · (intro u hu; (try dsimp only at hu); go_split_ands; go_simp)
  (try simp only [Act.put, putA, putB, putC])
  refine late_tk 1 (v := .agg #[.bool nb, .slice bo bl bc, .slice bO bL bC]) rfl (List.Mem.tail _ (List.Mem.head _)) (Or.inl ⟨by rfl, ?_⟩) hHeld ?_
  · (intro u hu; (try dsimp only at hu); go_split_ands; go_simp)
  (try simp only [Act.put, putA, putB, putC])
  refine late_st 2 rfl (fun K hK => ?_)
  go_simp
  have hq := neg3 nb bo bO bl bc bL bC (ib.below (below_drew' _)) (db.below (below_drew' _)) h1M (by omega)
  rw [HY.out] at hq
  refine hq.mono ?_
  rintro e w2 ⟨v, rfl, hv, b2⟩
  clear hq
  obtain ⟨ny, yo, yl, yc, yO, yL, yC, rfl, iy, dy⟩ := hv.seeB hsy
  clear hv
  have B2 : Below W1.heap.size W1 w2 := bstep (below_drew' _) b2
  clear hHeld
  have hHeld : AllL w2 [(0, fun w' => w'.cell? ⟨g, 0, none⟩ = some (.bool na) ∧ w'.cell? ⟨g, 1, none⟩ = some (.slice ao al ac) ∧ w'.cell? ⟨g, 2, none⟩ = some (.slice aO aL aC)), (1, fun w' => w'.cell? ⟨g + 1, 0, none⟩ = some (.bool nb) ∧ w'.cell? ⟨g + 1, 1, none⟩ = some (.slice bo bl bc) ∧ w'.cell? ⟨g + 1, 2, none⟩ = some (.slice bO bL bC))] := ⟨(qa.below B2).cells, (qb.below B2).cells, trivial⟩
  go_wp2_with fail
  refine hK.out _ _ (AllL.kept hHeld) ?_
  clear hK K
  (try simp only [Act.put, putA, putB, putC])
  refine late_st 3 rfl (fun K hK => ?_)
  go_simp
  have hq := add3 na ao aO al ac aL aC ny yo yO yl yc yL yC ((ia.below (below_drew' _)).below b2) ((da.below (below_drew' _)).below b2) h1L iy dy h1M (by omega)
  rw [HZ.out] at hq
  refine hq.mono ?_
  rintro e w3 ⟨v, rfl, hv, b3⟩
  clear hq iy dy
  obtain ⟨m, d, rfl, hm, hd, hap⟩ := hv
  obtain ⟨mo, ml, mc, rfl⟩ := hm.sl
  obtain ⟨mO, mL, mC, rfl⟩ := hd.sl
  have B3 : Below W1.heap.size W1 w3 := bstep B2 b3
  clear hHeld
  have hHeld : AllL w3 [(0, fun w' => w'.cell? ⟨g, 0, none⟩ = some (.bool na) ∧ w'.cell? ⟨g, 1, none⟩ = some (.slice ao al ac) ∧ w'.cell? ⟨g, 2, none⟩ = some (.slice aO aL aC)), (1, fun w' => w'.cell? ⟨g + 1, 0, none⟩ = some (.bool nb) ∧ w'.cell? ⟨g + 1, 1, none⟩ = some (.slice bo bl bc) ∧ w'.cell? ⟨g + 1, 2, none⟩ = some (.slice bO bL bC))] := ⟨(qa.below B3).cells, (qb.below B3).cells, trivial⟩
  go_wp2_with fail
  refine hK.out _ _ (AllL.kept hHeld) ?_
  clear hK K
  (try simp only [Act.put, putA, putB, putC])
  have qq := qR.below B3
  have HE : Hid (REnd w Z (.returned (.agg #[.bool (decide (Z.num < 0)), .slice mo ml mc, .slice mO mL mC])) (((w3.setCell ⟨g + 1 + 1, 0, none⟩ (.bool (decide (Z.num < 0)))).setCell ⟨g + 1 + 1, 1, none⟩ (.slice mo ml mc)).setCell ⟨g + 1 + 1, 2, none⟩ (.slice mO mL mC))) := rat_done rfl (by rw [HG.out]; omega) hm hd hap (Nat.lt_of_lt_of_le hsz B2.size) (bstep hb B3)
  have HW : Hid (QCell (((w3.setCell ⟨g + 1 + 1, 0, none⟩ (.bool (decide (Z.num < 0)))).setCell ⟨g + 1 + 1, 1, none⟩ (.slice mo ml mc)).setCell ⟨g + 1 + 1, 2, none⟩ (.slice mO mL mC)) (g + 1 + 1) (decide (Z.num < 0)) (.slice mo ml mc) (.slice mO mL mC)) := qq.write _ _ _
  obtain ⟨y0, y1, y2⟩ := qq.cells
  have f0 := qq.thaw 0
  have f1 := qq.thaw 1
  have f2 := qq.thaw 2
  generalize decide (Z.num < 0) = bb at *
  clear qq hap
  refine late_st 4 rfl (fun K hK => ?_)
  go_simp
  refine hK.out _ _ ⟨kpt 3, kpt 2, trivial⟩ ?_
  clear hK K
  (try simp only [Act.put, putA, putB, putC])
  refine late_done (by kernel_rfl) ?_ _
  clear hHeld
  clear hb hsz hm hd qa qb qR ia ib da db b2 b3 B2 B3 
  go_wp2_with fail
  (try simp only [Exit.inBlock, Exit.then])
  exact bodyPost_ret (results_cell_row rfl _ _ (g + 1 + 1) 27 _ (0, 0) _ rfl HW.out Tryz.underlying27 rfl (by kernel_rfl)) rfl HE.out
set_option maxRecDepth 100000 in
set_option maxHeartbeats 6400000 in
theorem norm3_no {p : Int} {q L : Nat} (na : Bool) (ao aO : Option Addr) (al ac aL aC : Nat) {w : World} (ia : IB w (.agg #[.bool na, .slice ao al ac]) p L) (da : NB w (.slice aO aL aC) (q : Int) L) (h1L : 1 ≤ L) (hL : L ≤ 150) (hz : q = 0) : Calls Tryz.prog 9 #[.agg #[.bool na, .slice ao al ac, .slice aO aL aC]] w fun e w' => RNo w e w' := by
  have ia0 := ia
  have da0 := da
  obtain ⟨o9, l9, c9, ys, e9, ua, la, ea⟩ := da
  cases e9
  have ea : val ys = q := by omega
  clear ia
  obtain ⟨W1, hW1⟩ : ∃ W1, W1 = (w.alloc (.cells #[.bool na, .slice ao al ac, .slice aO aL aC] 27)).alloc (.cells #[.bool false, .slice none 0 0, .slice none 0 0] 27) := ⟨_, rfl⟩
  have qa : QCell W1 (w.heap.size) na (.slice ao al ac) (.slice aO aL aC) := by rw [hW1]; exact (qcell_step (qcell_new _ (by simp)))
  have qR : QCell W1 (w.heap.size + 1) false (.slice none 0 0) (.slice none 0 0) := by rw [hW1]; exact (qcell_new _ (by simp))
  have hb : Below w.heap.size w W1 := by rw [hW1]; exact bstep (belowA w _) (belowA _ _)
  have hsz : w.heap.size + 1 < W1.heap.size := by rw [hW1]; simp
  replace da0 := da0.below hb
  replace ia0 := ia0.below hb
  replace ua := ua.below (Nat.le_refl _) hb
  have HW1 : Hid (W1 = (w.alloc (.cells #[.bool na, .slice ao al ac, .slice aO aL aC] 27)).alloc (.cells #[.bool false, .slice none 0 0, .slice none 0 0] 27)) := hW1
  clear hW1
  go_enter Tryz.func9, Tryz.ntmps9
  go_wp2_with fail
  rw [← HW1.out]
  clear HW1
  obtain ⟨g, hg⟩ : ∃ g, g = w.heap.size := ⟨_, rfl⟩
  rw [← hg] at qa qR hsz ⊢
  have HG : Hid (g = w.heap.size) := hg
  clear hg
  obtain ⟨cqa0, cqa1, cqa2⟩ := qa.cells
  obtain ⟨cqR0, cqR1, cqR2⟩ := qR.cells
  go_wp2_with fail
  clear cqa0 cqa1 cqa2 cqR0 cqR1 cqR2
  have hq := norm_ref _ _ _ ua (by omega)
  refine (hq).mono ?_
  rintro e w2 ⟨u, rfl, hu, b⟩
  clear hq
  obtain ⟨uo, ul, uc, rfl⟩ := hu.sl
  have hul := (num_len hu.num).1
  clear hu
  replace ua := ua.below (Nat.le_refl _) b
  replace ia0 := ia0.below b
  replace da0 := da0.below b
  replace qa := qa.below b
  replace qR := qR.below b
  replace hb := bstep hb b
  replace hsz := Nat.lt_of_lt_of_le hsz b.size
  clear b
  have hul0 : ul = 0 := by rw [← hul, ea, hz]; rfl
  clear hul
  subst hul0
  have HE : Hid (Below w.heap.size w (((w2.setCell ⟨g + 1, 0, none⟩ (.bool false)).setCell ⟨g + 1, 1, none⟩ (.slice none 0 0)).setCell ⟨g + 1, 2, none⟩ (.slice none 0 0))) := iend3 hb (by rw [HG.out]; omega)
  have HW : Hid (QCell (((w2.setCell ⟨g + 1, 0, none⟩ (.bool false)).setCell ⟨g + 1, 1, none⟩ (.slice none 0 0)).setCell ⟨g + 1, 2, none⟩ (.slice none 0 0)) (g + 1) false (.slice none 0 0) (.slice none 0 0)) := qR.write _ _ _
  obtain ⟨y0, y1, y2⟩ := qR.cells
  have f0 := qR.thaw 0
  have f1 := qR.thaw 1
  have f2 := qR.thaw 2
  clear hb hsz qa qR ua ia0 da0
  go_wp2_with fail
  (try simp only [Exit.inBlock, Exit.then])
  exact bodyPost_ret (results_ct (p := 2) (u := 3) rfl _ _ (g + 1) 27 _ (0, 0) _ rfl HW.out Tryz.underlying27 rfl (by kernel_rfl)) rfl ⟨rfl, HE.out⟩
set_option maxRecDepth 100000 in
set_option maxHeartbeats 6400000 in
theorem norm3_yes {p : Int} {q L : Nat} (na : Bool) (ao aO : Option Addr) (al ac aL aC : Nat) {w : World} (ia : IB w (.agg #[.bool na, .slice ao al ac]) p L) (da : NB w (.slice aO aL aC) (q : Int) L) (h1L : 1 ≤ L) (hL : L ≤ 150) (hz : q ≠ 0) : Calls Tryz.prog 9 #[.agg #[.bool na, .slice ao al ac, .slice aO aL aC]] w fun e w' => RTEnd w (rq p q) e w' := by
  obtain ⟨Z, hZ⟩ : ∃ Z, Z = rq p q := ⟨_, rfl⟩
  have HZ : Hid (rq p q = Z) := hZ.symm
  rw [← hZ]
  clear hZ
  have ia0 := ia
  have da0 := da
  obtain ⟨o9, l9, c9, ys, e9, ua, la, ea⟩ := da
  cases e9
  have ea : val ys = q := by omega
  clear ia
  obtain ⟨W1, hW1⟩ : ∃ W1, W1 = (w.alloc (.cells #[.bool na, .slice ao al ac, .slice aO aL aC] 27)).alloc (.cells #[.bool false, .slice none 0 0, .slice none 0 0] 27) := ⟨_, rfl⟩
  have qa : QCell W1 (w.heap.size) na (.slice ao al ac) (.slice aO aL aC) := by rw [hW1]; exact (qcell_step (qcell_new _ (by simp)))
  have qR : QCell W1 (w.heap.size + 1) false (.slice none 0 0) (.slice none 0 0) := by rw [hW1]; exact (qcell_new _ (by simp))
  have hb : Below w.heap.size w W1 := by rw [hW1]; exact bstep (belowA w _) (belowA _ _)
  have hsz : w.heap.size + 1 < W1.heap.size := by rw [hW1]; simp
  replace da0 := da0.below hb
  replace ia0 := ia0.below hb
  replace ua := ua.below (Nat.le_refl _) hb
  have HW1 : Hid (W1 = (w.alloc (.cells #[.bool na, .slice ao al ac, .slice aO aL aC] 27)).alloc (.cells #[.bool false, .slice none 0 0, .slice none 0 0] 27)) := hW1
  clear hW1
  go_enter Tryz.func9, Tryz.ntmps9
  go_wp2_with fail
  rw [← HW1.out]
  clear HW1
  obtain ⟨g, hg⟩ : ∃ g, g = w.heap.size := ⟨_, rfl⟩
  rw [← hg] at qa qR hsz ⊢
  have HG : Hid (g = w.heap.size) := hg
  clear hg
  obtain ⟨cqa0, cqa1, cqa2⟩ := qa.cells
  obtain ⟨cqR0, cqR1, cqR2⟩ := qR.cells
  go_wp2_with fail
  clear cqa0 cqa1 cqa2 cqR0 cqR1 cqR2
  have hq := norm_ref _ _ _ ua (by omega)
  refine (hq).mono ?_
  rintro e w2 ⟨u, rfl, hu, b⟩
  clear hq
  obtain ⟨uo, ul, uc, rfl⟩ := hu.sl
  have hul := (num_len hu.num).1
  clear hu
  replace ua := ua.below (Nat.le_refl _) b
  replace ia0 := ia0.below b
  replace da0 := da0.below b
  replace qa := qa.below b
  replace qR := qR.below b
  replace hb := bstep hb b
  replace hsz := Nat.lt_of_lt_of_le hsz b.size
  clear b
  have hul0 : ((ul : Int) == 0) = false := nz_int2 (by rw [← hul, ea]; exact lim_len_pos3 hz)
  clear hul
  obtain ⟨cqa0, cqa1, cqa2⟩ := qa.cells
  obtain ⟨cqR0, cqR1, cqR2⟩ := qR.cells
  go_wp2_with fail
  clear cqa0 cqa1 cqa2 cqR0 cqR1 cqR2
  have hq := fit3 na ao _ al ac _ _ ia0 da0 h1L hL
  rw [HZ.out] at hq
  have hszz := hsz
  refine (hq).mono ?_
  rintro e w3 ⟨v, rfl, hv, b⟩
  clear hq
  obtain ⟨m, d, rfl, hm, hd, hap⟩ := hv
  obtain ⟨mo, ml, mc, rfl⟩ := hm.sl
  obtain ⟨mO, mL, mC, rfl⟩ := hd.sl
  replace ua := ua.below (Nat.le_refl _) b
  replace ia0 := ia0.below b
  replace da0 := da0.below b
  replace qa := qa.below b
  replace qR := qR.below b
  replace hb := bstep hb b
  replace hsz := Nat.lt_of_lt_of_le hsz b.size
  clear b
  have qq := qR
  have HE : Hid (REnd w Z (.returned (.agg #[.bool (decide (Z.num < 0)), .slice mo ml mc, .slice mO mL mC])) (((w3.setCell ⟨g + 1, 0, none⟩ (.bool (decide (Z.num < 0)))).setCell ⟨g + 1, 1, none⟩ (.slice mo ml mc)).setCell ⟨g + 1, 2, none⟩ (.slice mO mL mC))) := rat_done rfl (by rw [HG.out]; omega) hm hd hap hszz (hb)
  have HW : Hid (QCell (((w3.setCell ⟨g + 1, 0, none⟩ (.bool (decide (Z.num < 0)))).setCell ⟨g + 1, 1, none⟩ (.slice mo ml mc)).setCell ⟨g + 1, 2, none⟩ (.slice mO mL mC)) (g + 1) (decide (Z.num < 0)) (.slice mo ml mc) (.slice mO mL mC)) := qq.write _ _ _
  obtain ⟨y0, y1, y2⟩ := qq.cells
  have f0 := qq.thaw 0
  have f1 := qq.thaw 1
  have f2 := qq.thaw 2
  generalize decide (Z.num < 0) = bb at *
  clear qq hap
  clear hb hsz hszz hm hd qa qR ua ia0 da0 
  go_wp2_with fail
  (try simp only [Exit.inBlock, Exit.then])
  exact bodyPost_ret (results_ct (p := 2) (u := 3) rfl _ _ (g + 1) 27 _ (0, 0) _ rfl HW.out Tryz.underlying27 rfl (by kernel_rfl)) rfl HE.out.t
set_option maxRecDepth 100000 in
set_option maxHeartbeats 6400000 in
theorem normF {p : Int} {q L : Nat} (na : Bool) (ao aO : Option Addr) (al ac aL aC : Nat) {w : World} (ia : IB w (.agg #[.bool na, .slice ao al ac]) p L) (da : NB w (.slice aO aL aC) (q : Int) L) (hL : L ≤ 150) : Calls Tryz.prog 8 #[.agg #[.bool na, .slice ao al ac, .slice aO aL aC]] w fun e w' => TE w p q e w' := by
  obtain ⟨Q, hQ⟩ : ∃ Q : Int, Q = (q : Int) := ⟨_, rfl⟩
  rw [← hQ] at da ⊢
  clear hQ
  obtain ⟨W1, hW1⟩ : ∃ W1, W1 = (w.alloc (.cells #[.bool na, .slice ao al ac, .slice aO aL aC] 27)).alloc (.cells #[.bool false, .slice none 0 0, .slice none 0 0] 27) := ⟨_, rfl⟩
  have qa : QCell W1 (w.heap.size) na (.slice ao al ac) (.slice aO aL aC) := by rw [hW1]; exact (qcell_step (qcell_new _ (by simp)))
  have qR : QCell W1 (w.heap.size + 1) false (.slice none 0 0) (.slice none 0 0) := by rw [hW1]; exact (qcell_new _ (by simp))
  have hb : Below w.heap.size w W1 := by rw [hW1]; exact bstep (belowA w _) (belowA _ _)
  have hsz : w.heap.size + 1 < W1.heap.size := by rw [hW1]; simp
  replace da := da.below hb
  replace ia := ia.below hb
  have HW1 : Hid (W1 = (w.alloc (.cells #[.bool na, .slice ao al ac, .slice aO aL aC] 27)).alloc (.cells #[.bool false, .slice none 0 0, .slice none 0 0] 27)) := hW1
  clear hW1
  go_enter Tryz.func8, Tryz.ntmps8
  go_wp2_with fail
  rw [← HW1.out]
  clear HW1
  obtain ⟨g, hg⟩ : ∃ g, g = w.heap.size := ⟨_, rfl⟩
  rw [← hg] at qa qR hsz ⊢
  have HG : Hid (g = w.heap.size) := hg
  clear hg
  obtain ⟨cqa0, cqa1, cqa2⟩ := qa.cells
  obtain ⟨cqR0, cqR1, cqR2⟩ := qR.cells
  go_wp2_with fail
  clear cqa0 cqa1 cqa2 cqR0 cqR1 cqR2
  have hq := (newF (ia.num (by omega)) (da.ib.num (by omega))).mono fun _ _ h => h.x
  have HPY : Hid (∀ e w', TEx w (nS p Q) (nE Q) (nM p Q) (nD p Q) e w' → TE w p Q e w') := fun _ _ h => h
  have hszz := hsz
  refine (hq).mono ?_
  rintro e w2 ⟨mo, mc, dO, dC, rfl, hm, hd, hap, b⟩
  clear hq
  replace ia := ia.below b
  replace da := da.below b
  replace qa := qa.below b
  replace qR := qR.below b
  replace hb := bstep hb b
  replace hsz := Nat.lt_of_lt_of_le hsz b.size
  clear b
  have HE : Hid (TEx w (nS p Q) (nE Q) (nM p Q) (nD p Q) (.returned (.tuple #[.agg #[.bool (nS p Q), .slice mo (nM p Q).length mc, .slice dO (nD p Q).length dC], .int .i64 (nE Q)])) (((w2.setCell ⟨g + 1, 0, none⟩ (.bool (nS p Q))).setCell ⟨g + 1, 1, none⟩ (.slice mo (nM p Q).length mc)).setCell ⟨g + 1, 2, none⟩ (.slice dO (nD p Q).length dC))) := tex_done (by rw [HG.out]; omega) hm hd hap hszz hb
  have HW : Hid (QCell (((w2.setCell ⟨g + 1, 0, none⟩ (.bool (nS p Q))).setCell ⟨g + 1, 1, none⟩ (.slice mo (nM p Q).length mc)).setCell ⟨g + 1, 2, none⟩ (.slice dO (nD p Q).length dC)) (g + 1) (nS p Q) (.slice mo (nM p Q).length mc) (.slice dO (nD p Q).length dC)) := qR.write _ _ _
  obtain ⟨y0, y1, y2⟩ := qR.cells
  have f0 := qR.thaw 0
  have f1 := qR.thaw 1
  have f2 := qR.thaw 2
  have HPT := HPY.out _ _ HE.out
  have HPH : Hid (TE w p Q _ _) := HPT
  clear HPT HE hap hm hd HPY
  generalize (nM p Q).length = lm at *
  generalize (nD p Q).length = ld at *
  generalize nS p Q = s1 at *
  generalize nE Q = e1 at *
  clear hb hsz hszz qa qR ia da
  go_wp2_with fail
  (try simp only [Exit.inBlock, Exit.then])
  exact bodyPost_ret (results_ct (p := 2) (u := 3) rfl _ _ (g + 1) 27 _ (0, 0) _ rfl HW.out Tryz.underlying27 rfl (by kernel_rfl)) rfl HPH.out
theorem normR {p : Int} {q L : Nat} (na : Bool) (ao aO : Option Addr) (al ac aL aC : Nat) {w : World} (ia : IB w (.agg #[.bool na, .slice ao al ac]) p L) (da : NB w (.slice aO aL aC) (q : Int) L) (h1L : 1 ≤ L) (hL : L ≤ 150) : Calls Tryz.prog 9 #[.agg #[.bool na, .slice ao al ac, .slice aO aL aC]] w fun e w' => TE w p q e w' := by
  by_cases hq : q = 0
  · exact (norm3_no na ao aO al ac aL aC ia da h1L hL hq).mono fun _ _ h => te_no (by omega) h
  · refine (norm3_yes na ao aO al ac aL aC ia da h1L hL hq).mono fun _ _ h => te_yes (by omega) ?_
    have e : rq p q = Rat.divInt p q := by unfold rq und; rw [if_neg hq]
    rw [← e]; exact h
end Go.Proofs.YtnehfkbpbgmbaaaGreatDoor
