/-
  Proved here: what Add and Sub of the document's layer 3 answer.
  Proved here: credenceref03's OwnRats of fractions whose numbers lie each in a row of its own: it answers true.
  Proved here: what strings.Cut answers of a text and a stroke.
  Proved here: what Parse of package frac answers of a written whole number, and of one with a stroke and digits behind it.
  Proved here: what Parse of package frac answers of a written fraction; what Of answers where the lower number is 0.
  Proved here: what New and Of of package frac, and the document's, answer, error or not, as one.
  Proved here: what Text of the document's layer 3 answers.
  Proved here: what Parse of package frac answers of any text (of at most 400 bytes).
  Proved here: what Sub, Norm and Div of the document's layer 3 answer, and Norm of package frac.
  Proved here: what Div of the document's layer 3 answers.
  Proved here: what Quo of the document's layer 2 answers.
  Proved here: what Floor of the document's layer 2 answers.
  Proved here: what Floor of package frac and of the document's layer 3 answer.
  Proved here: credenceref03's SameList of two rows of fractions that stand alike: it answers true.
  Proved here: the answers of Div and of the others, error or not, in one shape for package frac and for the document's layer 3.
  Proved here: the answers of package frac and of the document's layer 3 over fractions of at most 40 limbs, in one shape.
  Proved here: what cutAll of a list of fractions answers: new memory, in it the first thirty, each of at most forty limbs.
  Proved here: what Sum of the document's layer 3 answers.
  Proved here: plain facts on the simplest fraction between two: it lies there, it is in lowest terms, and none there has a lesser number above or below its line.
  Proved here: plain facts on the simplest fraction between two, as fractions: how it is found by the floor of the lower one.
  Proved here: the document's answers of layer 3 over fractions of at most 40 limbs, by their values alone.
  Proved here: awake answers true.
  Proved here: what some, split and follow of package frac's ratio answer.
-/
import Derived.Test.YtjickncdhajdgaaGreatR3C
import Derived.Deep.DeepCutAuto
import Derived.Test.YtjickncdhajdgaaGreatFracEAll
import Derived.Test.YtjickncdhajdgaaGreatLate
import Derived.Test.YtjickncdhajdgaaGreatWholeX1
import Derived.Lib.SmallJoins
import Derived.Deep.AppendLies
import Derived.Test.YtjickncdhajdgaaGreatRefOfAll
import Derived.Test.YtjickncdhajdgaaGreatR3All
import Derived.Test.YtjickncdhajdgaaGreatRefDivMod
import Derived.Test.YtjickncdhajdgaaGreatAllAll
import Derived.Test.YtjickncdhajdgaaGreatFracF
import Derived.Test.YtjickncdhajdgaaGreatWinMathAll
import Derived.Test.YtjickncdhajdgaaGreatFracC
namespace Go.Proofs.YtjickncdhajdgaaGreat
open Go.RowKit
attribute [local go_sem ↓] Go.wp_at_zero Go.wp_at_succ

end Go.Proofs.YtjickncdhajdgaaGreat

namespace Go.Proofs.YtjickncdhajdgaaGreat
open Go.RowKit

end Go.Proofs.YtjickncdhajdgaaGreat

namespace Go.Proofs.YtjickncdhajdgaaGreat
open Go.RowKit

end Go.Proofs.YtjickncdhajdgaaGreat

namespace Go.Proofs.YtjickncdhajdgaaGreat
open Go.RowKit

end Go.Proofs.YtjickncdhajdgaaGreat

namespace Go.Proofs.YtjickncdhajdgaaGreat
open Go.RowKit

end Go.Proofs.YtjickncdhajdgaaGreat

namespace Go.Proofs.YtjickncdhajdgaaGreat
open Go.RowKit

/-- Two of something. -/
def two {α : Type} (a b : α) (i : Nat) : α := if i = 0 then a else b
end Go.Proofs.YtjickncdhajdgaaGreat

namespace Go.Proofs.YtjickncdhajdgaaGreat
open Go.RowKit
attribute [local go_sem ↓] Go.wp_at_zero Go.wp_at_succ

end Go.Proofs.YtjickncdhajdgaaGreat

namespace Go.Proofs.YtjickncdhajdgaaGreat
open Go.RowKit

end Go.Proofs.YtjickncdhajdgaaGreat

namespace Go.Proofs.YtjickncdhajdgaaGreat
open Go.RowKit
attribute [local go_sem ↓] Go.wp_at_zero Go.wp_at_succ

theorem ROwn.seeB {B : Nat} {w : World} {v : Value} {x : Rat} {L : Nat} (h : ROwn B w v x) (hs : RSz x L) : ∃ n ao al ac bo bl bc, v = .agg #[.bool n, .slice ao al ac, .slice bo bl bc] ∧ IB w (.agg #[.bool n, .slice ao al ac]) x.num L ∧ NB w (.slice bo bl bc) (x.den : Int) L := by
  obtain ⟨m, d, rfl, hm, hd, _⟩ := h
  obtain ⟨mo, ml, mc, rfl⟩ := hm.sl
  obtain ⟨dO, dL, dC, rfl⟩ := hd.sl
  have h2 := hs.den.len
  rw [Int.natAbs_natCast] at h2
  exact ⟨_, _, _, _, _, _, _, rfl, IOwn.ib ⟨_, rfl, hm⟩ hs.num.len, _, _, _, _, rfl, hd.num, h2, by rw [val_lim]⟩
end Go.Proofs.YtjickncdhajdgaaGreat

namespace Go.Proofs.YtjickncdhajdgaaGreat
open Go.RowKit
attribute [local go_sem ↓] Go.wp_at_zero Go.wp_at_succ

end Go.Proofs.YtjickncdhajdgaaGreat

namespace Go.Proofs.YtjickncdhajdgaaGreat
open Go.RowKit
attribute [local go_sem ↓] Go.wp_at_zero Go.wp_at_succ

end Go.Proofs.YtjickncdhajdgaaGreat

namespace Go.Proofs.YtjickncdhajdgaaGreat
open Go.RowKit
attribute [local go_sem ↓] Go.wp_at_zero Go.wp_at_succ

end Go.Proofs.YtjickncdhajdgaaGreat

namespace Go.Proofs.YtjickncdhajdgaaGreat
open Go.RowKit
attribute [local go_sem ↓] Go.wp_at_zero Go.wp_at_succ

section
variable {P : Program} {l : List Oper} {Q : Exit → Act → World → Prop} {md : Region.Mode} {L : List (Nat × (World → Prop))}
end
end Go.Proofs.YtjickncdhajdgaaGreat

namespace Go.Proofs.YtjickncdhajdgaaGreat
open Go.RowKit

end Go.Proofs.YtjickncdhajdgaaGreat

namespace Go.Proofs.YtjickncdhajdgaaGreat
open Go.RowKit

end Go.Proofs.YtjickncdhajdgaaGreat

namespace Go.Proofs.YtjickncdhajdgaaGreat
open Go.RowKit

/-- A fraction that can be read, of at most 40 limbs. -/
def RV (w : World) (v : Value) (p : Int) (q : Nat) : Prop := ∃ n ao al ac bo bl bc, v = .agg #[.bool n, .slice ao al ac, .slice bo bl bc] ∧ IB w (.agg #[.bool n, .slice ao al ac]) p 40 ∧ NB w (.slice bo bl bc) (q : Int) 40
theorem RV.below {w w' : World} {v : Value} {p : Int} {q : Nat} (h : RV w v p q) (hb : Below w.heap.size w w') : RV w' v p q := by
  obtain ⟨n, ao, al, ac, bo, bl, bc, e, h1, h2⟩ := h
  exact ⟨n, ao, al, ac, bo, bl, bc, e, h1.below hb, h2.below hb⟩
theorem aCmpR {w : World} {v u : Value} {p r : Int} {q k : Nat} (h : RV w v p q) (h' : RV w u r k) : Calls Tryz.prog 19 #[v, u] w fun e w' => e = .returned (.int .i64 (cmpQ (rq p q) (rq r k))) ∧ Below w.heap.size w w' := by
  obtain ⟨n, ao, al, ac, bo, bl, bc, rfl, h1, h2⟩ := h
  obtain ⟨n', ao', al', ac', bo', bl', bc', rfl, h1', h2'⟩ := h'
  exact cmp3 n ao bo al ac bl bc n' ao' bo' al' ac' bl' bc' h1 h2 (by decide) h1' h2' (by decide) (by decide)
end Go.Proofs.YtjickncdhajdgaaGreat

namespace Go.Proofs.YtjickncdhajdgaaGreat
open Go.RowKit

end Go.Proofs.YtjickncdhajdgaaGreat

namespace Go.Proofs.YtjickncdhajdgaaGreat
open Go.RowKit

end Go.Proofs.YtjickncdhajdgaaGreat

namespace Go.Proofs.YtjickncdhajdgaaGreat

end Go.Proofs.YtjickncdhajdgaaGreat

namespace Go.Proofs.YtjickncdhajdgaaGreat

end Go.Proofs.YtjickncdhajdgaaGreat

namespace Go.Proofs.YtjickncdhajdgaaGreat
open Go.RowKit

/-- A fraction that can be read, of at most 40 limbs, by its value. -/
def RQ (w : World) (v : Value) (a : Rat) : Prop := ∃ p q, RV w v p q ∧ a = rq p q
theorem RQ.below {w w' : World} {v : Value} {a : Rat} (h : RQ w v a) (hb : Below w.heap.size w w') : RQ w' v a := by
  obtain ⟨p, q, h1, h2⟩ := h
  exact ⟨p, q, h1.below hb, h2⟩
theorem RQ.see {w : World} {v : Value} {a : Rat} (h : RQ w v a) : ∃ n ao al ac bo bl bc, v = .agg #[.bool n, .slice ao al ac, .slice bo bl bc] := by
  obtain ⟨p, q, ⟨n, ao, al, ac, bo, bl, bc, e, _⟩, _⟩ := h
  exact ⟨n, ao, al, ac, bo, bl, bc, e⟩
theorem ROwn.rq {B : Nat} {w : World} {v : Value} {a : Rat} (h : ROwn B w v a) (hs : RSz a 40) : RQ w v a := by
  obtain ⟨n, ao, al, ac, bo, bl, bc, rfl, h1, h2⟩ := h.seeB hs
  exact ⟨a.num, a.den, ⟨n, ao, al, ac, bo, bl, bc, rfl, h1, h2⟩, (rq_std a).symm⟩
theorem qCmp {w : World} {v u : Value} {a b : Rat} (h : RQ w v a) (h' : RQ w u b) : Calls Tryz.prog 19 #[v, u] w fun e w' => e = .returned (.int .i64 (cmpQ a b)) ∧ Below w.heap.size w w' := by
  obtain ⟨p, q, h1, rfl⟩ := h
  obtain ⟨p', q', h1', rfl⟩ := h'
  exact aCmpR h1 h1'
end Go.Proofs.YtjickncdhajdgaaGreat

namespace Go.Proofs.YtjickncdhajdgaaGreat
open Go.RowKit

end Go.Proofs.YtjickncdhajdgaaGreat

namespace Go.Proofs.YtjickncdhajdgaaGreat
open Go.RowKit
attribute [local go_sem ↓] Go.wp_at_zero Go.wp_at_succ

end Go.Proofs.YtjickncdhajdgaaGreat
