/-
  Proved here: a number that is read in a world is one number.
-/
import Derived.Test.YtcbfhakolfcmgaaMem
namespace Go.Proofs.Ytcbfhakolfcmgaa
open Go.RowKit

theorem Num.unique {w : World} {v : Value} {xs ys : List Nat} (h : Num w v xs) (g : Num w v ys) : xs = ys := by
  obtain ⟨_, ao, cap, e, _, _, _, h4⟩ := h
  obtain ⟨_, ao', cap', e', _, _, _, g4⟩ := g
  rw [e] at e'
  simp only [Value.slice.injEq] at e'
  obtain ⟨rfl, hl, rfl⟩ := e'
  apply List.ext_getElem hl
  intro j h1 h2
  obtain ⟨b, off, e1, c1⟩ := h4 j h1
  obtain ⟨b', off', e2, c2⟩ := g4 j h2
  rw [e1] at e2
  simp only [Option.some.injEq, Addr.mk.injEq, and_true] at e2
  obtain ⟨rfl, rfl⟩ := e2
  rw [c1] at c2
  simp only [U, Option.some.injEq, Value.int.injEq, true_and] at c2
  rw [List.getD_eq_getElem?_getD, List.getElem?_eq_getElem h1, List.getD_eq_getElem?_getD, List.getElem?_eq_getElem h2] at c2
  simp at c2; omega
open Classical in
/-- The number that a value says in a world; 0 where it says none. -/
noncomputable def valAt (w : World) (v : Value) : Nat := if h : ∃ xs, Num w v xs then val (Classical.choose h) else 0
theorem valAt_eq {w : World} {v : Value} {xs : List Nat} (h : Num w v xs) : valAt w v = val xs := by
  have hx : ∃ xs, Num w v xs := ⟨xs, h⟩
  unfold valAt
  rw [dif_pos hx]
  congr 1
  exact (Classical.choose_spec hx).unique h
end Go.Proofs.Ytcbfhakolfcmgaa
