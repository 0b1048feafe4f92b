/-
  Proved here: mathematics (no program): two rising lists put together.
-/
import Derived.Test.YtknibmehbplpbaaSetCell
import Derived.Laws.MakeOwn
namespace Go.Proofs.Ytknibmehbplpbaa
open Go.Shelf Go.RowKit Go.Lib Go.Sort
section
variable {α : Type}
/-- how many are below -/
def pF (lt : α → α → Bool) (L : List α) (x : α) : Nat := (L.takeWhile fun y => lt y x).length
theorem pF_pos {lt : α → α → Bool} {x : α} : ∀ {L : List α} {k : Nat}, Pos lt L x k → k = pF lt L x
  | [], k, h => by have := h.le; simp at this; subst this; rfl
  | y :: L, 0, h => by
    have := h.hi 0 y (Nat.le_refl _) rfl
    unfold pF
    rw [List.takeWhile_cons, if_neg (by rw [this]; simp)]
    rfl
  | y :: L, k + 1, h => by
    have h0 := h.lo 0 y (by omega) rfl
    have ih := pF_pos (L := L) (k := k) ⟨by have := h.le; simpa using this, fun t z ht hz => h.lo (t + 1) z (by omega) (by simpa using hz), fun t z ht hz => h.hi (t + 1) z (by omega) (by simpa using hz)⟩
    unfold pF at ih ⊢
    rw [List.takeWhile_cons, if_pos h0, List.length_cons, ← ih]
/-- s and r put together: of the same thing s's -/
def jn (lt : α → α → Bool) (fd : List α → α → Nat → Bool) : List α → List α → List α
  | [], r => r
  | x :: s, r => r.take (pF lt r x) ++ x :: jn lt fd s (if fd r x (pF lt r x) then r.drop (pF lt r x + 1) else r.drop (pF lt r x))
theorem jn_len {lt : α → α → Bool} {fd : List α → α → Nat → Bool} : ∀ (s r : List α), (jn lt fd s r).length ≤ s.length + r.length
  | [], r => by simp [jn]
  | x :: s, r => by
    cases e : fd r x (pF lt r x) with
    | true =>
      have := jn_len (lt := lt) (fd := fd) s (r.drop (pF lt r x + 1))
      simp only [jn, e, if_true, List.length_append, List.length_cons, List.length_take]
      simp only [List.length_drop] at this
      omega
    | false =>
      have := jn_len (lt := lt) (fd := fd) s (r.drop (pF lt r x))
      simp only [jn, e, List.length_append, List.length_cons, List.length_take]
      simp only [List.length_drop] at this
      simp only [Bool.false_eq_true, if_false]
      omega
theorem srt_drops {le : α → α → Bool} {l : List α} (h : Srt le l) (s : Nat) : Srt le (l.drop s) := List.Pairwise.sublist (List.drop_sublist s l) h
theorem filter_snoc (p : α → Bool) {L : List α} {i : Nat} {x : α} (h : L[i]? = some x) : (L.take (i + 1)).filter p = (L.take i).filter p ++ if p x then [x] else [] := by
  rw [take_snoc h, List.filter_append]
  cases e : p x <;> simp [e]
end
end Go.Proofs.Ytknibmehbplpbaa
