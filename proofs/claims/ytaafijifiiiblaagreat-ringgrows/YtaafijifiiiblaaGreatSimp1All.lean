/-
  Proved here: what Add and Sub of the document's layer 3 answer.
  Proved here: credenceref03's OwnRats of fractions whose numbers lie each in a row of its own: it answers true.
  Proved here: what strings.Cut answers of a text and a stroke.
  Proved here: what Parse of package frac answers of a written whole number, and of one with a stroke and digits behind it.
  Proved here: what Parse of package frac answers of a written fraction; what Of answers where the lower number is 0.
  Proved here: what New and Of of package frac, and the document's, answer, error or not, as one.
  Proved here: what Text of the document's layer 3 answers.
  Proved here: what Parse of package frac answers of any text (of at most 400 bytes).
  Proved here: what Sub, Norm and Div of the document's layer 3 answer, and Norm of package frac.
  Proved here: what Div of the document's layer 3 answers.
  Proved here: what Quo of the document's layer 2 answers.
  Proved here: what Floor of the document's layer 2 answers.
  Proved here: what Floor of package frac and of the document's layer 3 answer.
  Proved here: credenceref03's SameList of two rows of fractions that stand alike: it answers true.
  Proved here: the answers of Div and of the others, error or not, in one shape for package frac and for the document's layer 3.
  Proved here: the answers of package frac and of the document's layer 3 over fractions of at most 40 limbs, in one shape.
  Proved here: what cutAll of a list of fractions answers: new memory, in it the first thirty, each of at most forty limbs.
  Proved here: what Sum of the document's layer 3 answers.
  Proved here: plain facts on the simplest fraction between two: it lies there, it is in lowest terms, and none there has a lesser number above or below its line.
  Proved here: plain facts on the simplest fraction between two, as fractions: how it is found by the floor of the lower one.
  Proved here: the document's answers of layer 3 over fractions of at most 40 limbs, by their values alone.
  Proved here: awake answers true.
  Proved here: what some, split and follow of package frac's ratio answer.
-/
import Derived.Test.YtaafijifiiiblaaGreatR3C
import Derived.Deep.DeepCutAuto
import Derived.Test.YtaafijifiiiblaaGreatFracEAll
import Derived.Test.YtaafijifiiiblaaGreatLate
import Derived.Test.YtaafijifiiiblaaGreatWholeX1
import Derived.Lib.SmallJoins
import Derived.Deep.AppendLies
import Derived.Test.YtaafijifiiiblaaGreatRefOfAll
import Derived.Test.YtaafijifiiiblaaGreatR3All
import Derived.Test.YtaafijifiiiblaaGreatRefDivMod
import Derived.Test.YtaafijifiiiblaaGreatAllAll
import Derived.Test.YtaafijifiiiblaaGreatFracF
import Derived.Test.YtaafijifiiiblaaGreatWinMathAll
import Derived.Test.YtaafijifiiiblaaGreatFracC
namespace Go.Proofs.YtaafijifiiiblaaGreat
open Go.RowKit
attribute [local go_sem ↓] Go.wp_at_zero Go.wp_at_succ

end Go.Proofs.YtaafijifiiiblaaGreat

namespace Go.Proofs.YtaafijifiiiblaaGreat
open Go.RowKit

end Go.Proofs.YtaafijifiiiblaaGreat

namespace Go.Proofs.YtaafijifiiiblaaGreat
open Go.RowKit

end Go.Proofs.YtaafijifiiiblaaGreat

namespace Go.Proofs.YtaafijifiiiblaaGreat
open Go.RowKit

end Go.Proofs.YtaafijifiiiblaaGreat

namespace Go.Proofs.YtaafijifiiiblaaGreat
open Go.RowKit

end Go.Proofs.YtaafijifiiiblaaGreat

namespace Go.Proofs.YtaafijifiiiblaaGreat
open Go.RowKit

/-- Two of something. -/
def two {α : Type} (a b : α) (i : Nat) : α := if i = 0 then a else b
end Go.Proofs.YtaafijifiiiblaaGreat

namespace Go.Proofs.YtaafijifiiiblaaGreat
open Go.RowKit
attribute [local go_sem ↓] Go.wp_at_zero Go.wp_at_succ

theorem rnum_of {p : Int} {q L : Nat} {na : Bool} {ao aO : Option Addr} {al ac aL aC : Nat} {w : World} (ia : IB w (.agg #[.bool na, .slice ao al ac]) p L) (da : NB w (.slice aO aL aC) (q : Int) L) (h1L : 1 ≤ L) (hL : L ≤ 1000000) : RNum w (.agg #[.bool na, .slice ao al ac, .slice aO aL aC]) (rq p q) L := by
  have h1 := ia.sz
  have h2 := und_sz da.sz h1L
  have h3 := ia.num hL
  obtain ⟨o, l, c, ys, e, k1, k2, k3⟩ := da
  cases e
  exact ⟨p, q, ⟨_, _, _, _, _, _, _, ys, rfl, h3, k1, by omega, by omega⟩, rfl, h1, h2⟩
end Go.Proofs.YtaafijifiiiblaaGreat

namespace Go.Proofs.YtaafijifiiiblaaGreat
open Go.RowKit

end Go.Proofs.YtaafijifiiiblaaGreat

namespace Go.Proofs.YtaafijifiiiblaaGreat
open Go.RowKit
attribute [local go_sem ↓] Go.wp_at_zero Go.wp_at_succ

theorem ROwn.seeB {B : Nat} {w : World} {v : Value} {x : Rat} {L : Nat} (h : ROwn B w v x) (hs : RSz x L) : ∃ n ao al ac bo bl bc, v = .agg #[.bool n, .slice ao al ac, .slice bo bl bc] ∧ IB w (.agg #[.bool n, .slice ao al ac]) x.num L ∧ NB w (.slice bo bl bc) (x.den : Int) L := by
  obtain ⟨m, d, rfl, hm, hd, _⟩ := h
  obtain ⟨mo, ml, mc, rfl⟩ := hm.sl
  obtain ⟨dO, dL, dC, rfl⟩ := hd.sl
  have h2 := hs.den.len
  rw [Int.natAbs_natCast] at h2
  exact ⟨_, _, _, _, _, _, _, rfl, IOwn.ib ⟨_, rfl, hm⟩ hs.num.len, _, _, _, _, rfl, hd.num, h2, by rw [val_lim]⟩
end Go.Proofs.YtaafijifiiiblaaGreat

namespace Go.Proofs.YtaafijifiiiblaaGreat
open Go.RowKit
attribute [local go_sem ↓] Go.wp_at_zero Go.wp_at_succ

end Go.Proofs.YtaafijifiiiblaaGreat

namespace Go.Proofs.YtaafijifiiiblaaGreat
open Go.RowKit
attribute [local go_sem ↓] Go.wp_at_zero Go.wp_at_succ

end Go.Proofs.YtaafijifiiiblaaGreat

namespace Go.Proofs.YtaafijifiiiblaaGreat
open Go.RowKit
attribute [local go_sem ↓] Go.wp_at_zero Go.wp_at_succ

end Go.Proofs.YtaafijifiiiblaaGreat

namespace Go.Proofs.YtaafijifiiiblaaGreat
open Go.RowKit
attribute [local go_sem ↓] Go.wp_at_zero Go.wp_at_succ

section
variable {P : Program} {l : List Oper} {Q : Exit → Act → World → Prop} {md : Region.Mode} {L : List (Nat × (World → Prop))}
end
end Go.Proofs.YtaafijifiiiblaaGreat

namespace Go.Proofs.YtaafijifiiiblaaGreat
open Go.RowKit

end Go.Proofs.YtaafijifiiiblaaGreat

namespace Go.Proofs.YtaafijifiiiblaaGreat
open Go.RowKit

end Go.Proofs.YtaafijifiiiblaaGreat

namespace Go.Proofs.YtaafijifiiiblaaGreat
open Go.RowKit

/-- A fraction that can be read, of at most 40 limbs. -/
def RV (w : World) (v : Value) (p : Int) (q : Nat) : Prop := ∃ n ao al ac bo bl bc, v = .agg #[.bool n, .slice ao al ac, .slice bo bl bc] ∧ IB w (.agg #[.bool n, .slice ao al ac]) p 40 ∧ NB w (.slice bo bl bc) (q : Int) 40
theorem RV.below {w w' : World} {v : Value} {p : Int} {q : Nat} (h : RV w v p q) (hb : Below w.heap.size w w') : RV w' v p q := by
  obtain ⟨n, ao, al, ac, bo, bl, bc, e, h1, h2⟩ := h
  exact ⟨n, ao, al, ac, bo, bl, bc, e, h1.below hb, h2.below hb⟩
theorem RV.of {w : World} {n : Bool} {ao bo : Option Addr} {al ac bl bc : Nat} {xs ys : List Nat} (h1 : Num w (.slice ao al ac) xs) (h2 : Num w (.slice bo bl bc) ys) (l1 : xs.length ≤ 40) (l2 : ys.length ≤ 40) : RV w (.agg #[.bool n, .slice ao al ac, .slice bo bl bc]) (zv n (val xs)) (val ys) :=
  ⟨n, ao, al, ac, bo, bl, bc, rfl, ⟨_, _, _, _, _, rfl, h1, l1, rfl⟩, ⟨_, _, _, _, rfl, h2, l2, rfl⟩⟩
theorem RV.sz {w : World} {v : Value} {p : Int} {q : Nat} (h : RV w v p q) : Sz p 40 ∧ Sz (und q) 40 := by
  obtain ⟨n, ao, al, ac, bo, bl, bc, rfl, h1, h2⟩ := h
  exact ⟨h1.sz, und_sz h2.sz (by decide)⟩
theorem aCmpR {w : World} {v u : Value} {p r : Int} {q k : Nat} (h : RV w v p q) (h' : RV w u r k) : Calls Tryz.prog 84 #[v, u] w fun e w' => e = .returned (.int .i64 (cmpQ (rq p q) (rq r k))) ∧ Below w.heap.size w w' := by
  obtain ⟨n, ao, al, ac, bo, bl, bc, rfl, h1, h2⟩ := h
  obtain ⟨n', ao', al', ac', bo', bl', bc', rfl, h1', h2'⟩ := h'
  exact cmp3 n ao bo al ac bl bc n' ao' bo' al' ac' bl' bc' h1 h2 (by decide) h1' h2' (by decide) (by decide)
end Go.Proofs.YtaafijifiiiblaaGreat

namespace Go.Proofs.YtaafijifiiiblaaGreat
open Go.RowKit

/-- A fraction as it stands: its cells, and what they say. -/
structure FV where
  n : Bool
  ao : Option Addr
  al : Nat
  ac : Nat
  bo : Option Addr
  bl : Nat
  bc : Nat
  xs : List Nat
  ys : List Nat
instance : Inhabited FV := ⟨⟨false, none, 0, 0, none, 0, 0, [], []⟩⟩
def FV.cells (f : FV) : List Value := [.bool f.n, .slice f.ao f.al f.ac, .slice f.bo f.bl f.bc]
/-- It can be read. -/
structure FV.At (f : FV) (w : World) : Prop where
  num : Num w (.slice f.ao f.al f.ac) f.xs
  den : Num w (.slice f.bo f.bl f.bc) f.ys
theorem FV.At.below {f : FV} {w w' : World} (h : f.At w) (hb : Below w.heap.size w w') : f.At w' := ⟨h.num.below (Nat.le_refl _) hb, h.den.below (Nat.le_refl _) hb⟩
/-- At most so many limbs. -/
def FV.cut (f : FV) (k : Nat) : FV := ⟨f.n, f.ao, min f.al k, f.ac, f.bo, min f.bl k, f.bc, f.xs.take (min f.al k), f.ys.take (min f.bl k)⟩
theorem FV.At.cut {f : FV} {w : World} (h : f.At w) (k : Nat) : (f.cut k).At w := ⟨num_cut h.num (Nat.min_le_left _ _), num_cut h.den (Nat.min_le_left _ _)⟩
theorem FV.cut_len (f : FV) (k : Nat) : (f.cut k).xs.length ≤ k ∧ (f.cut k).ys.length ≤ k := by
  constructor
  · show (f.xs.take (min f.al k)).length ≤ k
    rw [List.length_take]; omega
  · show (f.ys.take (min f.bl k)).length ≤ k
    rw [List.length_take]; omega
/-- A row of fractions that is read: at each place its cells. -/
def FRow (w : World) (lo : Option Addr) (n : Nat) (F : Nat → FV) : Prop := ∀ i, i < n → (∃ b off, lo = some ⟨b, off, none⟩ ∧ w.cell? ⟨b, off + i * 3, none⟩ = some (.bool (F i).n) ∧ w.cell? ⟨b, off + i * 3 + 1, none⟩ = some (.slice (F i).ao (F i).al (F i).ac) ∧ w.cell? ⟨b, off + i * 3 + 2, none⟩ = some (.slice (F i).bo (F i).bl (F i).bc)) ∧ (F i).At w
theorem FRow.below {w w' : World} {lo : Option Addr} {n : Nat} {F : Nat → FV} (h : FRow w lo n F) (hb : Below w.heap.size w w') : FRow w' lo n F := by
  intro i hi
  obtain ⟨⟨b, off, e, h0, h1, h2⟩, h3⟩ := h i hi
  exact ⟨⟨b, off, e, keepB hb h0, keepB hb h1, keepB hb h2⟩, h3.below hb⟩
theorem FRow.nil (w : World) (lo : Option Addr) (F : Nat → FV) : FRow w lo 0 F := fun _ hi => absurd hi (Nat.not_lt_zero _)
end Go.Proofs.YtaafijifiiiblaaGreat

namespace Go.Proofs.YtaafijifiiiblaaGreat
open Go.RowKit

end Go.Proofs.YtaafijifiiiblaaGreat

namespace Go.Proofs.YtaafijifiiiblaaGreat

end Go.Proofs.YtaafijifiiiblaaGreat

namespace Go.Proofs.YtaafijifiiiblaaGreat

end Go.Proofs.YtaafijifiiiblaaGreat

namespace Go.Proofs.YtaafijifiiiblaaGreat
open Go.RowKit

/-- A fraction that can be read, of at most 40 limbs, by its value. -/
def RQ (w : World) (v : Value) (a : Rat) : Prop := ∃ p q, RV w v p q ∧ a = rq p q
theorem RQ.below {w w' : World} {v : Value} {a : Rat} (h : RQ w v a) (hb : Below w.heap.size w w') : RQ w' v a := by
  obtain ⟨p, q, h1, h2⟩ := h
  exact ⟨p, q, h1.below hb, h2⟩
theorem RQ.sz {w : World} {v : Value} {a : Rat} (h : RQ w v a) : RSz a 40 := by
  obtain ⟨p, q, h1, rfl⟩ := h
  exact RSz.of (und_ne q) h1.sz.1 h1.sz.2
theorem RQ.see {w : World} {v : Value} {a : Rat} (h : RQ w v a) : ∃ n ao al ac bo bl bc, v = .agg #[.bool n, .slice ao al ac, .slice bo bl bc] := by
  obtain ⟨p, q, ⟨n, ao, al, ac, bo, bl, bc, e, _⟩, _⟩ := h
  exact ⟨n, ao, al, ac, bo, bl, bc, e⟩
theorem ROwn.rq {B : Nat} {w : World} {v : Value} {a : Rat} (h : ROwn B w v a) (hs : RSz a 40) : RQ w v a := by
  obtain ⟨n, ao, al, ac, bo, bl, bc, rfl, h1, h2⟩ := h.seeB hs
  exact ⟨a.num, a.den, ⟨n, ao, al, ac, bo, bl, bc, rfl, h1, h2⟩, (rq_std a).symm⟩
theorem qCmp {w : World} {v u : Value} {a b : Rat} (h : RQ w v a) (h' : RQ w u b) : Calls Tryz.prog 84 #[v, u] w fun e w' => e = .returned (.int .i64 (cmpQ a b)) ∧ Below w.heap.size w w' := by
  obtain ⟨p, q, h1, rfl⟩ := h
  obtain ⟨p', q', h1', rfl⟩ := h'
  exact aCmpR h1 h1'
end Go.Proofs.YtaafijifiiiblaaGreat

namespace Go.Proofs.YtaafijifiiiblaaGreat
open Go.RowKit

end Go.Proofs.YtaafijifiiiblaaGreat

namespace Go.Proofs.YtaafijifiiiblaaGreat
open Go.RowKit
attribute [local go_sem ↓] Go.wp_at_zero Go.wp_at_succ

end Go.Proofs.YtaafijifiiiblaaGreat
