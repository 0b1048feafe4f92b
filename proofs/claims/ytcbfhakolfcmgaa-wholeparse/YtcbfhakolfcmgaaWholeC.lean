/-
  Proved here: what Add of package whole answers.
-/
import Derived.Test.YtcbfhakolfcmgaaWholeB
import Derived.RegionTactic
namespace Go.Proofs.Ytcbfhakolfcmgaa
open Go.RowKit

theorem zv_add (n : Bool) (x y : Nat) : zv n x + zv n y = zv n (x + y) := by cases n <;> simp [zv] <;> omega
theorem zv_sub {n k : Bool} {x y : Nat} (h : n ≠ k) (hle : y ≤ x) : zv n x + zv k y = zv n (x - y) := by
  cases n <;> cases k <;> simp [zv] at h ⊢ <;> omega
theorem zv_sub' {n k : Bool} {x y : Nat} (h : n ≠ k) (hle : x ≤ y) : zv n x + zv k y = zv k (y - x) := by
  cases n <;> cases k <;> simp [zv] at h ⊢ <;> omega
/-- The two boxes and the result's. -/
def Boxes (w : World) (g : Nat) (na nb : Bool) (ma mb : Value) : Prop := ICell w g na ma ∧ ICell w (g + 1) nb mb ∧ ICell w (g + 1 + 1) false (.slice none 0 0)
theorem Boxes.below {w w' : World} {g : Nat} {na nb : Bool} {ma mb : Value} (h : Boxes w g na nb ma mb) (hb : Below w.heap.size w w') : Boxes w' g na nb ma mb := ⟨h.1.below hb, h.2.1.below hb, h.2.2.below hb⟩
theorem Boxes.new (w : World) (na nb : Bool) (ma mb : Value) : Boxes (((w.alloc (.cells #[.bool na, ma] 25)).alloc (.cells #[.bool nb, mb] 25)).alloc (.cells #[.bool false, .slice none 0 0] 25)) w.heap.size na nb ma mb := by
  have h3 := ICell.new ((w.alloc (.cells #[.bool na, ma] 25)).alloc (.cells #[.bool nb, mb] 25)) false (.slice none 0 0)
  have h2 := (ICell.new (w.alloc (.cells #[.bool na, ma] 25)) nb mb).below (belowA _ (.cells #[.bool false, .slice none 0 0] 25))
  have h1 := ((ICell.new w na ma).below (belowA _ (.cells #[.bool nb, mb] 25))).below (belowA _ (.cells #[.bool false, .slice none 0 0] 25))
  rw [World.size_alloc] at h2
  rw [World.size_alloc, World.size_alloc] at h3
  exact ⟨h1, h2, h3⟩

end Go.Proofs.Ytcbfhakolfcmgaa
