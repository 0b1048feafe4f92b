/-
  Proved here: a list of ints that was handed in is a row that can be read; the set of a list, told by what is in it.
  Proved here: mathematics (no program): two rising lists put together.
  Proved here: package set at int: kept, Meet, Minus.
-/
import Derived.Test.YtjlmignafhhjhaaSetHAll
import Derived.Test.YtjlmignafhhjhaaSetMath
import Derived.OpenShut
import Derived.Test.YtjlmignafhhjhaaSetCell
import Derived.Laws.MakeOwn
import Derived.Test.YtjlmignafhhjhaaMemAll
import Derived.Deep.CutRange
namespace Go.Proofs.Ytjlmignafhhjhaa
open Go.Shelf Go.RowKit Go.Lib Go.Sort
theorem rs_rise {L : List Int} : Rs (ltOf cfI) L ↔ Rise L := by
  unfold Rs Rise
  constructor
  · intro h; exact h.imp fun hxy => by rw [ltI] at hxy; exact of_decide_eq_true hxy
  · intro h; exact h.imp fun hxy => by rw [ltI]; exact decide_eq_true hxy
theorem mem_ofI (L : List Int) (z : Int) : z ∈ ofI L ↔ z ∈ L := by
  unfold ofI
  constructor
  · intro h; exact (perm_sortS (le := leOf (ltOf cfI)) L).mem_iff.1 (mem_cpt h)
  · intro h; exact cpt_mem smI_eq ((perm_sortS (le := leOf (ltOf cfI)) L).mem_iff.2 h)
theorem ofI_eq (L : List Int) : ofI L = ofR L := rise_ext (rs_rise.1 (ofI_rs L)) (rise_ofR L) fun z => by rw [mem_ofI, mem_ofR]
theorem smI_iff (x y : Int) : smI x y = decide (x = y) := cfI_zero x y
theorem hasI_mem (L : List Int) (x : Int) : hasI L x = decide (x ∈ L) := by
  unfold hasI
  rw [Bool.eq_iff_iff]
  simp only [List.any_eq_true, smI_iff, decide_eq_true_eq]
  constructor
  · rintro ⟨y, hy, rfl⟩; exact hy
  · intro h; exact ⟨x, h, rfl⟩
end Go.Proofs.Ytjlmignafhhjhaa

namespace Go.Proofs.Ytjlmignafhhjhaa
open Go.Shelf Go.RowKit Go.Lib Go.Sort
section
variable {α : Type}
/-- how many are below -/
def pF (lt : α → α → Bool) (L : List α) (x : α) : Nat := (L.takeWhile fun y => lt y x).length
theorem pF_pos {lt : α → α → Bool} {x : α} : ∀ {L : List α} {k : Nat}, Pos lt L x k → k = pF lt L x
  | [], k, h => by have := h.le; simp at this; subst this; rfl
  | y :: L, 0, h => by
    have := h.hi 0 y (Nat.le_refl _) rfl
    unfold pF
    rw [List.takeWhile_cons, if_neg (by rw [this]; simp)]
    rfl
  | y :: L, k + 1, h => by
    have h0 := h.lo 0 y (by omega) rfl
    have ih := pF_pos (L := L) (k := k) ⟨by have := h.le; simpa using this, fun t z ht hz => h.lo (t + 1) z (by omega) (by simpa using hz), fun t z ht hz => h.hi (t + 1) z (by omega) (by simpa using hz)⟩
    unfold pF at ih ⊢
    rw [List.takeWhile_cons, if_pos h0, List.length_cons, ← ih]
/-- s and r put together: of the same thing s's -/
def jn (lt : α → α → Bool) (fd : List α → α → Nat → Bool) : List α → List α → List α
  | [], r => r
  | x :: s, r => r.take (pF lt r x) ++ x :: jn lt fd s (if fd r x (pF lt r x) then r.drop (pF lt r x + 1) else r.drop (pF lt r x))
theorem jn_len {lt : α → α → Bool} {fd : List α → α → Nat → Bool} : ∀ (s r : List α), (jn lt fd s r).length ≤ s.length + r.length
  | [], r => by simp [jn]
  | x :: s, r => by
    cases e : fd r x (pF lt r x) with
    | true =>
      have := jn_len (lt := lt) (fd := fd) s (r.drop (pF lt r x + 1))
      simp only [jn, e, if_true, List.length_append, List.length_cons, List.length_take]
      simp only [List.length_drop] at this
      omega
    | false =>
      have := jn_len (lt := lt) (fd := fd) s (r.drop (pF lt r x))
      simp only [jn, e, List.length_append, List.length_cons, List.length_take]
      simp only [List.length_drop] at this
      simp only [Bool.false_eq_true, if_false]
      omega
end
end Go.Proofs.Ytjlmignafhhjhaa

namespace Go.Proofs.Ytjlmignafhhjhaa
open Go.Shelf Go.RowKit Go.Lib Go.Sort
/-- what a maker leaves -/
def MkEI (w : World) (M : List Int) (e : Ending) (w' : World) : Prop := ∃ u, e = .returned (.agg #[u]) ∧ OG (Value.int .i64) w.heap.size 3 w' u M ∧ Below w.heap.size w w'
end Go.Proofs.Ytjlmignafhhjhaa
