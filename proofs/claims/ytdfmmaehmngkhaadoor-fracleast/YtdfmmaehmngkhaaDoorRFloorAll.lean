/-
  Proved here: what New, Of, Same, LendInt and KeptInt of the document's layer 3 answer, and the law's cutInt.
  Proved here: what the document's functions of layer 3 that reckon answer.
  Proved here: what Fit, Neg, Mul, Cmp, Sign, Lend, Kept and Text of the document's layer 3 answer.
  Proved here: what Add and Sub of the document's layer 3 answer.
  Proved here: credenceref03's OwnRats of fractions whose numbers lie each in a row of its own: it answers true.
  Proved here: what strings.Cut answers of a text and a stroke.
  Proved here: what Parse of package frac answers of a written whole number, and of one with a stroke and digits behind it.
  Proved here: what Parse of package frac answers of a written fraction; what Of answers where the lower number is 0.
  Proved here: what New and Of of package frac, and the document's, answer, error or not, as one.
  Proved here: what Text of the document's layer 3 answers.
  Proved here: what Parse of package frac answers of any text (of at most 400 bytes).
  Proved here: what Sub, Norm and Div of the document's layer 3 answer, and Norm of package frac.
  Proved here: what Div of the document's layer 3 answers.
  Proved here: what Quo of the document's layer 2 answers.
  Proved here: what Floor of the document's layer 2 answers.
-/
import Derived.Test.YtdfmmaehmngkhaaDoorFracSAll
import Derived.Test.YtdfmmaehmngkhaaDoorFracG
import Derived.Deep.RegionHeld3
import Derived.Deep.DrawnRows
import Derived.Test.YtdfmmaehmngkhaaDoorFracE
import Derived.Deep.DeepCutAuto
import Derived.Test.YtdfmmaehmngkhaaDoorLate
import Derived.Test.YtdfmmaehmngkhaaDoorWholeX1
import Derived.Lib.SmallJoins
import Derived.Deep.AppendLies
import Derived.Test.YtdfmmaehmngkhaaDoorFracD
namespace Go.Proofs.YtdfmmaehmngkhaaDoor
open Go.RowKit
attribute [local go_sem ↓] Go.wp_at_zero Go.wp_at_succ

/-- A whole number that can be read, of so many limbs. -/
def IB (w : World) (v : Value) (z : Int) (L : Nat) : Prop := ∃ n o l c xs, v = .agg #[.bool n, .slice o l c] ∧ Num w (.slice o l c) xs ∧ xs.length ≤ L ∧ zv n (val xs) = z
theorem IB.below {w w' : World} {v : Value} {z : Int} {L : Nat} (h : IB w v z L) (hb : Below w.heap.size w w') : IB w' v z L := by
  obtain ⟨n, o, l, c, xs, e, h1, h2⟩ := h
  exact ⟨n, o, l, c, xs, e, h1.below (Nat.le_refl _) hb, h2⟩
theorem IOwn.ib {B : Nat} {w : World} {v : Value} {z : Int} {L : Nat} (h : IOwn B w v z) (hl : (lim z.natAbs).length ≤ L) : IB w v z L := by
  obtain ⟨m, rfl, hm⟩ := h
  obtain ⟨mo, ml, mc, rfl⟩ := hm.sl
  exact ⟨_, _, _, _, _, rfl, hm.num, hl, by rw [val_lim]; exact zv_self z⟩
end Go.Proofs.YtdfmmaehmngkhaaDoor

namespace Go.Proofs.YtdfmmaehmngkhaaDoor
open Go.RowKit
attribute [local go_sem ↓] Go.wp_at_zero Go.wp_at_succ

/-- A natural number that can be read, of so many limbs. -/
def NB (w : World) (v : Value) (z : Int) (L : Nat) : Prop := ∃ o l c xs, v = .slice o l c ∧ Num w (.slice o l c) xs ∧ xs.length ≤ L ∧ (val xs : Int) = z
theorem NB.below {w w' : World} {v : Value} {z : Int} {L : Nat} (h : NB w v z L) (hb : Below w.heap.size w w') : NB w' v z L := by
  obtain ⟨o, l, c, xs, e, h1, h2⟩ := h
  exact ⟨o, l, c, xs, e, h1.below (Nat.le_refl _) hb, h2⟩
theorem IB.num {w : World} {v : Value} {z : Int} {L : Nat} (h : IB w v z L) (hL : L ≤ 1000000) : INum w v z := by
  obtain ⟨n, o, l, c, xs, e, h1, h2, h3⟩ := h
  exact ⟨n, o, l, c, xs, e, h1, Nat.le_trans h2 hL, h3⟩
theorem IB.sz {w : World} {v : Value} {z : Int} {L : Nat} (h : IB w v z L) : Sz z L := by
  obtain ⟨n, o, l, c, xs, e, h1, h2, h3⟩ := h
  rw [← h3]
  exact Sz.of_num h1 h2
theorem NB.sz {w : World} {v : Value} {z : Int} {L : Nat} (h : NB w v z L) : Sz z L := by
  obtain ⟨o, l, c, xs, e, h1, h2, h3⟩ := h
  have := Sz.of_num (neg := false) h1 h2
  rw [show zv false (val xs) = z from h3] at this
  exact this
theorem und_sz {q L : Nat} (h : Sz (q : Int) L) (hL : 1 ≤ L) : Sz (und q) L := by
  unfold und
  split
  · exact Sz.one.mono hL
  · exact h
end Go.Proofs.YtdfmmaehmngkhaaDoor

namespace Go.Proofs.YtdfmmaehmngkhaaDoor
open Go.RowKit
attribute [local go_sem ↓] Go.wp_at_zero Go.wp_at_succ

end Go.Proofs.YtdfmmaehmngkhaaDoor

namespace Go.Proofs.YtdfmmaehmngkhaaDoor
open Go.RowKit
attribute [local go_sem ↓] Go.wp_at_zero Go.wp_at_succ

end Go.Proofs.YtdfmmaehmngkhaaDoor

namespace Go.Proofs.YtdfmmaehmngkhaaDoor
open Go.RowKit

end Go.Proofs.YtdfmmaehmngkhaaDoor

namespace Go.Proofs.YtdfmmaehmngkhaaDoor
open Go.RowKit

end Go.Proofs.YtdfmmaehmngkhaaDoor

namespace Go.Proofs.YtdfmmaehmngkhaaDoor
open Go.RowKit

end Go.Proofs.YtdfmmaehmngkhaaDoor

namespace Go.Proofs.YtdfmmaehmngkhaaDoor
open Go.RowKit

end Go.Proofs.YtdfmmaehmngkhaaDoor

namespace Go.Proofs.YtdfmmaehmngkhaaDoor
open Go.RowKit

/-- Two of something. -/
def two {α : Type} (a b : α) (i : Nat) : α := if i = 0 then a else b
end Go.Proofs.YtdfmmaehmngkhaaDoor

namespace Go.Proofs.YtdfmmaehmngkhaaDoor
open Go.RowKit
attribute [local go_sem ↓] Go.wp_at_zero Go.wp_at_succ

theorem rnum_of {p : Int} {q L : Nat} {na : Bool} {ao aO : Option Addr} {al ac aL aC : Nat} {w : World} (ia : IB w (.agg #[.bool na, .slice ao al ac]) p L) (da : NB w (.slice aO aL aC) (q : Int) L) (h1L : 1 ≤ L) (hL : L ≤ 1000000) : RNum w (.agg #[.bool na, .slice ao al ac, .slice aO aL aC]) (rq p q) L := by
  have h1 := ia.sz
  have h2 := und_sz da.sz h1L
  have h3 := ia.num hL
  obtain ⟨o, l, c, ys, e, k1, k2, k3⟩ := da
  cases e
  exact ⟨p, q, ⟨_, _, _, _, _, _, _, ys, rfl, h3, k1, by omega, by omega⟩, rfl, h1, h2⟩
end Go.Proofs.YtdfmmaehmngkhaaDoor

namespace Go.Proofs.YtdfmmaehmngkhaaDoor
open Go.RowKit

def okT (t : ByteArray) : Prop := DigOk (tail t) ∧ 0 < (tail t).size
def okB (b : ByteArray) : Prop := DigOk b ∧ 0 < b.size
instance (t : ByteArray) : Decidable (okT t) := inferInstanceAs (Decidable (DigOk (tail t) ∧ 0 < (tail t).size))
instance (b : ByteArray) : Decidable (okB b) := inferInstanceAs (Decidable (DigOk b ∧ 0 < b.size))
end Go.Proofs.YtdfmmaehmngkhaaDoor

namespace Go.Proofs.YtdfmmaehmngkhaaDoor
open Go.RowKit
attribute [local go_sem ↓] Go.wp_at_zero Go.wp_at_succ

theorem ROwn.seeB {B : Nat} {w : World} {v : Value} {x : Rat} {L : Nat} (h : ROwn B w v x) (hs : RSz x L) : ∃ n ao al ac bo bl bc, v = .agg #[.bool n, .slice ao al ac, .slice bo bl bc] ∧ IB w (.agg #[.bool n, .slice ao al ac]) x.num L ∧ NB w (.slice bo bl bc) (x.den : Int) L := by
  obtain ⟨m, d, rfl, hm, hd, _⟩ := h
  obtain ⟨mo, ml, mc, rfl⟩ := hm.sl
  obtain ⟨dO, dL, dC, rfl⟩ := hd.sl
  have h2 := hs.den.len
  rw [Int.natAbs_natCast] at h2
  exact ⟨_, _, _, _, _, _, _, rfl, IOwn.ib ⟨_, rfl, hm⟩ hs.num.len, _, _, _, _, rfl, hd.num, h2, by rw [val_lim]⟩
end Go.Proofs.YtdfmmaehmngkhaaDoor

namespace Go.Proofs.YtdfmmaehmngkhaaDoor
open Go.RowKit
attribute [local go_sem ↓] Go.wp_at_zero Go.wp_at_succ

end Go.Proofs.YtdfmmaehmngkhaaDoor

namespace Go.Proofs.YtdfmmaehmngkhaaDoor
open Go.RowKit
attribute [local go_sem ↓] Go.wp_at_zero Go.wp_at_succ

end Go.Proofs.YtdfmmaehmngkhaaDoor

namespace Go.Proofs.YtdfmmaehmngkhaaDoor
open Go.RowKit
attribute [local go_sem ↓] Go.wp_at_zero Go.wp_at_succ

theorem own_ne3 {B e g : Nat} {w : World} {m : Value} {xs : List Nat} (h : Own B e w m xs) (hg : g < B) : m.ownBlock = none ∨ m.ownBlock ≠ some g := by
  cases hm : m.ownBlock with
  | none => exact Or.inl rfl
  | some k =>
    right
    intro e9
    have h1 := (h.block k hm).1
    rw [Option.some.injEq] at e9
    omega
theorem own_ne_top {B e : Nat} {w : World} {m : Value} {xs : List Nat} (h : Own B e w m xs) : m.ownBlock = none ∨ m.ownBlock ≠ some w.heap.size := by
  cases hm : m.ownBlock with
  | none => exact Or.inl rfl
  | some k =>
    right
    intro e9
    have h1 := (h.block k hm).2
    rw [Option.some.injEq] at e9
    omega
theorem own_put {B e g : Nat} {w : World} {m v0 v1 : Value} {xs : List Nat} (h : Own B e w m xs) (hne : m.ownBlock = none ∨ m.ownBlock ≠ some g) : Own B e ((w.setCell ⟨g, 0, none⟩ v0).setCell ⟨g, 1, none⟩ v1) m xs := (h.other v0 hne).other v1 hne
end Go.Proofs.YtdfmmaehmngkhaaDoor
