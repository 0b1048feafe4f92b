/-
  Proved here: plain facts on products of tables: the sizes of each table are those of the product that it has.
-/
import Derived.Test.YtphbbkckigdgoaaFacGAll
namespace Go.Proofs.Ytphbbkckigdgoaa
set_option linter.unusedVariables false
open Go.RowKit Go.Shelf Go.Lib Go.Sort
section
variable {xs zs ys us : List Int}
end
/-- All blocks but some are as they were. -/
structure GrS (w w' : World) (X : List Nat) : Prop where
  os : w'.os = w.os
  tape : w'.tape = w.tape
  output : w'.output = w.output
  size : w.heap.size ≤ w'.heap.size
  block : ∀ k, k < w.heap.size → k ∉ X → w'.heap[k]? = w.heap[k]?
section
variable {w W W' : World} {X : List Nat}
theorem GrS.refl (w : World) (X : List Nat) : GrS w w X := ⟨rfl, rfl, rfl, Nat.le_refl _, fun _ _ _ => rfl⟩
theorem GrS.then (h : GrS w W X) (b : Below W.heap.size W W') : GrS w W' X := ⟨b.os.trans h.os, b.tape.trans h.tape, b.output.trans h.output, Nat.le_trans h.size b.size, fun k hk hx => by rw [b.block k (Nat.lt_of_lt_of_le hk h.size)]; exact h.block k hk hx⟩
theorem GrS.set (h : GrS w W X) {a : Nat} (ha : a ∈ X) (k : Nat) (v : Value) : GrS w (W.setCell ⟨a, k, none⟩ v) X := by
  have hb := (Below.refl a W).setCell (p := ⟨a, k, none⟩) (Nat.le_refl _) v
  exact ⟨hb.os.trans h.os, hb.tape.trans h.tape, hb.output.trans h.output, Nat.le_trans h.size hb.size, fun q hq hx => by have hne : q ≠ a := fun e => hx (e ▸ ha); rw [Below.heap_setCell _ _ _ _ hne]; exact h.block q hq hx⟩
theorem GrS.drew (h : GrS w W X) : GrS w W.drew X := ⟨h.os, h.tape, h.output, h.size, h.block⟩
theorem GrS.below (h : GrS w W X) {B : Nat} (hX : ∀ x ∈ X, B ≤ x) (hB : B ≤ w.heap.size) : Below B w W := ⟨h.os, h.tape, h.output, h.size, fun k hk => h.block k (by omega) (fun hx => by have := hX k hx; omega)⟩
end
end Go.Proofs.Ytphbbkckigdgoaa
