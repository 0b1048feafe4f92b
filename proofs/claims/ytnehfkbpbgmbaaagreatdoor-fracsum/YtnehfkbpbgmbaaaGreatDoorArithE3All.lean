/-
  Proved here: what Text of the document's layer 3 answers.
  Proved here: what Parse of package frac answers of any text (of at most 400 bytes).
  Proved here: what Sub, Norm and Div of the document's layer 3 answer, and Norm of package frac.
  Proved here: what Div of the document's layer 3 answers.
  Proved here: what Quo of the document's layer 2 answers.
  Proved here: what Floor of the document's layer 2 answers.
  Proved here: what Floor of package frac and of the document's layer 3 answer.
  Proved here: credenceref03's SameList of two rows of fractions that stand alike: it answers true.
  Proved here: the answers of Div and of the others, error or not, in one shape for package frac and for the document's layer 3.
  Proved here: the answers of package frac and of the document's layer 3 over fractions of at most 40 limbs, in one shape.
-/
import Derived.Test.YtnehfkbpbgmbaaaGreatDoorR3C
import Derived.Test.YtnehfkbpbgmbaaaGreatDoorMakeE3All
import Derived.Test.YtnehfkbpbgmbaaaGreatDoorAdd3
import Derived.Test.YtnehfkbpbgmbaaaGreatDoorValAtAll
import Derived.Test.YtnehfkbpbgmbaaaGreatDoorLate
import Derived.Test.YtnehfkbpbgmbaaaGreatDoorR3
import Derived.Test.YtnehfkbpbgmbaaaGreatDoorAllAll
namespace Go.Proofs.YtnehfkbpbgmbaaaGreatDoor
open Go.RowKit
attribute [local go_sem ↓] Go.wp_at_zero Go.wp_at_succ

theorem Own.set3 {B e : Nat} {w : World} {v : Value} {xs : List Nat} (h : Own B e w v xs) {g : Nat} (hg : g < B) (a b c : Value) : Own B e (((w.setCell ⟨g, 0, none⟩ a).setCell ⟨g, 1, none⟩ b).setCell ⟨g, 2, none⟩ c) v xs := by
  have hne : v.ownBlock = none ∨ v.ownBlock ≠ some g := by
    rcases hu : v.ownBlock with _ | k
    · exact .inl rfl
    · exact .inr fun e => by have := (h.block k hu).1; have := Option.some.inj e; omega
  exact ((h.other a hne).other b hne).other c hne
theorem rnum_of {p : Int} {q L : Nat} {na : Bool} {ao aO : Option Addr} {al ac aL aC : Nat} {w : World} (ia : IB w (.agg #[.bool na, .slice ao al ac]) p L) (da : NB w (.slice aO aL aC) (q : Int) L) (h1L : 1 ≤ L) (hL : L ≤ 1000000) : RNum w (.agg #[.bool na, .slice ao al ac, .slice aO aL aC]) (rq p q) L := by
  have h1 := ia.sz
  have h2 := und_sz da.sz h1L
  have h3 := ia.num hL
  obtain ⟨o, l, c, ys, e, k1, k2, k3⟩ := da
  cases e
  exact ⟨p, q, ⟨_, _, _, _, _, _, _, ys, rfl, h3, k1, by omega, by omega⟩, rfl, h1, h2⟩
end Go.Proofs.YtnehfkbpbgmbaaaGreatDoor

namespace Go.Proofs.YtnehfkbpbgmbaaaGreatDoor
open Go.RowKit

def okT (t : ByteArray) : Prop := DigOk (tail t) ∧ 0 < (tail t).size
def okB (b : ByteArray) : Prop := DigOk b ∧ 0 < b.size
instance (t : ByteArray) : Decidable (okT t) := inferInstanceAs (Decidable (DigOk (tail t) ∧ 0 < (tail t).size))
instance (b : ByteArray) : Decidable (okB b) := inferInstanceAs (Decidable (DigOk b ∧ 0 < b.size))
end Go.Proofs.YtnehfkbpbgmbaaaGreatDoor

namespace Go.Proofs.YtnehfkbpbgmbaaaGreatDoor
open Go.RowKit
attribute [local go_sem ↓] Go.wp_at_zero Go.wp_at_succ

theorem ROwn.seeB {B : Nat} {w : World} {v : Value} {x : Rat} {L : Nat} (h : ROwn B w v x) (hs : RSz x L) : ∃ n ao al ac bo bl bc, v = .agg #[.bool n, .slice ao al ac, .slice bo bl bc] ∧ IB w (.agg #[.bool n, .slice ao al ac]) x.num L ∧ NB w (.slice bo bl bc) (x.den : Int) L := by
  obtain ⟨m, d, rfl, hm, hd, _⟩ := h
  obtain ⟨mo, ml, mc, rfl⟩ := hm.sl
  obtain ⟨dO, dL, dC, rfl⟩ := hd.sl
  have h2 := hs.den.len
  rw [Int.natAbs_natCast] at h2
  exact ⟨_, _, _, _, _, _, _, rfl, IOwn.ib ⟨_, rfl, hm⟩ hs.num.len, _, _, _, _, rfl, hd.num, h2, by rw [val_lim]⟩
theorem rsz_of {w : World} {na : Bool} {ao aO : Option Addr} {al ac aL aC : Nat} {p : Int} {q L : Nat} (ia : IB w (.agg #[.bool na, .slice ao al ac]) p L) (da : NB w (.slice aO aL aC) (q : Int) L) (h1L : 1 ≤ L) : Sz p L ∧ Sz (und q) L := ⟨ia.sz, und_sz da.sz h1L⟩
end Go.Proofs.YtnehfkbpbgmbaaaGreatDoor

namespace Go.Proofs.YtnehfkbpbgmbaaaGreatDoor
open Go.RowKit
attribute [local go_sem ↓] Go.wp_at_zero Go.wp_at_succ

end Go.Proofs.YtnehfkbpbgmbaaaGreatDoor

namespace Go.Proofs.YtnehfkbpbgmbaaaGreatDoor
open Go.RowKit
attribute [local go_sem ↓] Go.wp_at_zero Go.wp_at_succ

end Go.Proofs.YtnehfkbpbgmbaaaGreatDoor

namespace Go.Proofs.YtnehfkbpbgmbaaaGreatDoor
open Go.RowKit
attribute [local go_sem ↓] Go.wp_at_zero Go.wp_at_succ

end Go.Proofs.YtnehfkbpbgmbaaaGreatDoor

namespace Go.Proofs.YtnehfkbpbgmbaaaGreatDoor
open Go.RowKit
attribute [local go_sem ↓] Go.wp_at_zero Go.wp_at_succ

section
variable {P : Program} {l : List Oper} {Q : Exit → Act → World → Prop} {md : Region.Mode} {L : List (Nat × (World → Prop))}
end
/-- A variable made within the region. -/
structure PV (W1 w : World) (v : Nat) : Prop where
  c : ICell w v false (.slice none 0 0)
  lt : v < w.heap.size
  ge : W1.heap.size ≤ v
theorem PV.below {W1 w w' : World} {v : Nat} (h : PV W1 w v) (hb : Below w.heap.size w w') : PV W1 w' v := ⟨h.c.below hb, Nat.lt_of_lt_of_le h.lt hb.size, h.ge⟩
end Go.Proofs.YtnehfkbpbgmbaaaGreatDoor

namespace Go.Proofs.YtnehfkbpbgmbaaaGreatDoor
open Go.RowKit

/-- Number i of two rows of fractions stands alike. -/
def SameAt (w' : World) (la lb i : Nat) : Prop := ∃ na ao bo aO bO al ac bc aL aC bC xs ys, (w'.cell? ⟨la, i * 3, none⟩ = some (.bool na) ∧ w'.cell? ⟨la, i * 3 + 1, none⟩ = some (.slice ao al ac) ∧ w'.cell? ⟨la, i * 3 + 2, none⟩ = some (.slice aO aL aC)) ∧ (w'.cell? ⟨lb, i * 3, none⟩ = some (.bool na) ∧ w'.cell? ⟨lb, i * 3 + 1, none⟩ = some (.slice bo al bc) ∧ w'.cell? ⟨lb, i * 3 + 2, none⟩ = some (.slice bO aL bC)) ∧ Num w' (.slice ao al ac) xs ∧ Num w' (.slice bo al bc) xs ∧ Num w' (.slice aO aL aC) ys ∧ Num w' (.slice bO aL bC) ys
theorem SameAt.below {w w' : World} {la lb i : Nat} (h : SameAt w la lb i) (hb : Below w.heap.size w w') : SameAt w' la lb i := by
  obtain ⟨na, ao, bo, aO, bO, al, ac, bc, aL, aC, bC, xs, ys, ⟨c0, c1, c2⟩, ⟨d0, d1, d2⟩, h1, h2, h3, h4⟩ := h
  exact ⟨na, ao, bo, aO, bO, al, ac, bc, aL, aC, bC, xs, ys, ⟨keepB hb c0, keepB hb c1, keepB hb c2⟩, ⟨keepB hb d0, keepB hb d1, keepB hb d2⟩, h1.below (Nat.le_refl _) hb, h2.below (Nat.le_refl _) hb, h3.below (Nat.le_refl _) hb, h4.below (Nat.le_refl _) hb⟩
end Go.Proofs.YtnehfkbpbgmbaaaGreatDoor

namespace Go.Proofs.YtnehfkbpbgmbaaaGreatDoor
open Go.RowKit

/-- An answered fraction, by its sign and its limbs. -/
def AE (w : World) (s : Bool) (xm xd : List Nat) (e : Ending) (w' : World) : Prop :=
  ∃ mo mc dO dC, e = .returned (.agg #[.bool s, .slice mo xm.length mc, .slice dO xd.length dC]) ∧ Own w.heap.size 67 w' (.slice mo xm.length mc) xm ∧ Own w.heap.size 67 w' (.slice dO xd.length dC) xd ∧
    ((Value.slice mo xm.length mc).ownBlock = none ∨ (Value.slice mo xm.length mc).ownBlock ≠ (Value.slice dO xd.length dC).ownBlock) ∧ Below w.heap.size w w'
theorem REnd.ae {w w' : World} {x : Rat} {e : Ending} (h : REnd w x e w') : AE w (decide (x.num < 0)) (lim x.num.natAbs) (lim x.den) e w' := by
  obtain ⟨v, rfl, ⟨m, d, rfl, h1, h2, h3⟩, hb⟩ := h
  obtain ⟨mo, ml, mc, rfl⟩ := h1.sl
  obtain ⟨dO, dL, dC, rfl⟩ := h2.sl
  have e1 := (num_len h1.num).1
  have e2 := (num_len h2.num).1
  subst e1
  subst e2
  exact ⟨mo, mc, dO, dC, rfl, h1, h2, h3, hb⟩
end Go.Proofs.YtnehfkbpbgmbaaaGreatDoor

namespace Go.Proofs.YtnehfkbpbgmbaaaGreatDoor
open Go.RowKit

/-- A fraction that can be read, of at most 40 limbs. -/
def RV (w : World) (v : Value) (p : Int) (q : Nat) : Prop := ∃ n ao al ac bo bl bc, v = .agg #[.bool n, .slice ao al ac, .slice bo bl bc] ∧ IB w (.agg #[.bool n, .slice ao al ac]) p 40 ∧ NB w (.slice bo bl bc) (q : Int) 40
theorem RV.below {w w' : World} {v : Value} {p : Int} {q : Nat} (h : RV w v p q) (hb : Below w.heap.size w w') : RV w' v p q := by
  obtain ⟨n, ao, al, ac, bo, bl, bc, e, h1, h2⟩ := h
  exact ⟨n, ao, al, ac, bo, bl, bc, e, h1.below hb, h2.below hb⟩
theorem RV.of {w : World} {n : Bool} {ao bo : Option Addr} {al ac bl bc : Nat} {xs ys : List Nat} (h1 : Num w (.slice ao al ac) xs) (h2 : Num w (.slice bo bl bc) ys) (l1 : xs.length ≤ 40) (l2 : ys.length ≤ 40) : RV w (.agg #[.bool n, .slice ao al ac, .slice bo bl bc]) (zv n (val xs)) (val ys) :=
  ⟨n, ao, al, ac, bo, bl, bc, rfl, ⟨_, _, _, _, _, rfl, h1, l1, rfl⟩, ⟨_, _, _, _, rfl, h2, l2, rfl⟩⟩
theorem RV.rn {w : World} {v : Value} {p : Int} {q : Nat} (h : RV w v p q) : RNum w v (rq p q) 40 := by
  obtain ⟨n, ao, al, ac, bo, bl, bc, rfl, h1, h2⟩ := h
  exact rnum_of h1 h2 (by decide) (by decide)
theorem RV.sz {w : World} {v : Value} {p : Int} {q : Nat} (h : RV w v p q) : Sz p 40 ∧ Sz (und q) 40 := by
  obtain ⟨n, ao, al, ac, bo, bl, bc, rfl, h1, h2⟩ := h
  exact ⟨h1.sz, und_sz h2.sz (by decide)⟩
def Ln (x : Rat) : Prop := (lim x.num.natAbs).length ≤ 81 ∧ (lim x.den).length ≤ 81
theorem RSz.ln {x : Rat} {L : Nat} (h : RSz x L) (hL : L ≤ 81) : Ln x := ⟨Nat.le_trans h.num.len hL, Nat.le_trans h.den.len hL⟩
end Go.Proofs.YtnehfkbpbgmbaaaGreatDoor
