/-
  Proved here: what between of package frac answers.
-/
import Derived.Test.YtaafijifiiiblaaGreatSimp1All
import Derived.Test.YtaafijifiiiblaaGreatLate2
import Derived.Deep.DeepCutAuto
namespace Go.Proofs.YtaafijifiiiblaaGreat
open Go.RowKit
attribute [local go_sem ↓] Go.wp_at_zero Go.wp_at_succ

/-- No cell of the block holds an int. -/
def NoInt (w : World) (g : Nat) : Prop := ∀ i k z, w.cell? ⟨g, i, none⟩ ≠ some (.int k z)
theorem Num.box {w w' : World} {v : Value} {xs : List Nat} {g : Nat} (h : Num w v xs) (hg : NoInt w g) (hw : ∀ b, b ≠ g → w'.heap[b]? = w.heap[b]?) : Num w' v xs := by
  obtain ⟨h0, ao, cap, rfl, h1, h2, h3, h4⟩ := h
  refine ⟨h0, ao, cap, rfl, h1, h2, h3, fun j hj => ?_⟩
  obtain ⟨b, off, e, hc⟩ := h4 j hj
  refine ⟨b, off, e, ?_⟩
  rw [← hc]
  apply World.cell?_of_block
  refine hw b fun e2 => ?_
  subst e2
  exact hg _ _ _ hc
theorem INum.box {w w' : World} {v : Value} {z : Int} {g : Nat} (h : INum w v z) (hg : NoInt w g) (hw : ∀ b, b ≠ g → w'.heap[b]? = w.heap[b]?) : INum w' v z := by
  obtain ⟨neg, ao, l, cap, xs, rfl, h1, h2, h3⟩ := h
  exact ⟨_, _, _, _, _, rfl, h1.box hg hw, h2, h3⟩
end Go.Proofs.YtaafijifiiiblaaGreat
