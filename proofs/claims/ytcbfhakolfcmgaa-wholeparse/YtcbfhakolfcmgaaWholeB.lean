/-
  Proved here: what Of, Add, Sub and Text of package whole answer.
-/
import Derived.Test.YtcbfhakolfcmgaaWholeA
import Derived.Test.YtcbfhakolfcmgaaSubAll
import Derived.Test.YtcbfhakolfcmgaaAlive0
namespace Go.Proofs.Ytcbfhakolfcmgaa
open Go.RowKit

/-- The whole number of a side and a size. -/
def zv (neg : Bool) (n : Nat) : Int := if neg then -(n : Int) else n
/-- What a function leaves that answers a whole number. -/
def IntEnd (w : World) (z : Int) (e : Ending) (w' : World) : Prop :=
  ∃ m, e = .returned (.agg #[.bool (decide (z < 0)), m]) ∧ Own w.heap.size 30 w' m (lim z.natAbs) ∧ Below w.heap.size w w'
theorem lim_pos_len {n : Nat} : 0 < (lim n).length ↔ n ≠ 0 := by
  constructor
  · intro h h0; subst h0; simp [lim_zero] at h
  · intro h
    rcases Nat.eq_zero_or_pos (lim n).length with h0 | h0
    · exfalso; apply h; rw [← val_lim n, List.length_eq_zero_iff.1 h0]; rfl
    · exact h0
theorem sign_eq (neg : Bool) (n : Nat) : (neg && decide (0 < (lim n).length)) = decide (zv neg n < 0) := by
  cases neg
  · simp [zv]
  · by_cases h : n = 0
    · subst h; rfl
    · rw [decide_eq_true (lim_pos_len.2 h), decide_eq_true (show zv true n < 0 by unfold zv; simp; omega)]; rfl
theorem zv_abs (neg : Bool) (n : Nat) : (zv neg n).natAbs = n := by cases neg <;> simp [zv]

theorem int_done {w w3 : World} {g B : Nat} {z : Int} {b : Bool} {m : Value} (hb : b = decide (z < 0)) (hg : w.heap.size ≤ g) (ho : Own B 30 w3 m (lim z.natAbs)) (hgB : g < B) (hbel : Below w.heap.size w w3) :
    IntEnd w z (.returned (.agg #[.bool b, m])) ((w3.setCell ⟨g, 0, none⟩ (.bool b)).setCell ⟨g, 1, none⟩ m) := by
  have hne : m.ownBlock = none ∨ m.ownBlock ≠ some g := by
    cases hm : m.ownBlock with
    | none => exact Or.inl rfl
    | some k =>
      right
      intro e
      rw [Option.some.injEq] at e
      have := (ho.block k hm).1
      omega
  exact ⟨m, by rw [hb], ((ho.other (.bool b) hne).other m hne).mono (by omega), (hbel.setCell (p := ⟨g, 0, none⟩) hg _).setCell (p := ⟨g, 1, none⟩) hg _⟩

end Go.Proofs.Ytcbfhakolfcmgaa
