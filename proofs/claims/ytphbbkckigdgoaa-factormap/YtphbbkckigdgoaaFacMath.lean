/-
  Proved here: plain mathematics of tables: strides, how a choice of values goes on, where a table's cell stands. No condition.
-/
import Derived.Test.YtphbbkckigdgoaaRadMath
namespace Go.Proofs.Ytphbbkckigdgoaa
set_option linter.unusedVariables false

/-- Is a scope with its sizes right, behind a variable p? -/
def okS (p : Int) : List Int → List Int → Bool
  | x :: xs, z :: zs => decide (p < x) && decide (1 ≤ z) && okS x xs zs
  | _, _ => true
/-- Why a table may not be. -/
def chkE (xs zs : List Int) (m : Nat) : Int :=
  if zs.length ≠ xs.length then 60 else if okS (-1) xs zs = false then 60 else if cntE zs ≠ 0 then cntE zs else if cntN zs ≠ (m : Int) then 60 else 0
theorem okS_cons {p x z : Int} {xs zs : List Int} (h : okS p (x :: xs) (z :: zs) = true) : p < x ∧ 1 ≤ z ∧ okS x xs zs = true := by
  simp only [okS, Bool.and_eq_true, decide_eq_true_eq] at h
  exact ⟨h.1.1, h.1.2, h.2⟩
theorem okS_ones : ∀ {p : Int} {xs zs : List Int}, zs.length = xs.length → okS p xs zs = true → ∀ z ∈ zs, 1 ≤ z
  | _, [], [], _, _, z, hz => by cases hz
  | _, x :: xs, z :: zs, hl, h, y, hy => by
    obtain ⟨_, h2, h3⟩ := okS_cons h
    rcases List.mem_cons.1 hy with e | e
    · rw [e]; exact h2
    · exact okS_ones (by simpa using hl) h3 y e
theorem okS_step {p : Int} {xs zs : List Int} {i : Nat} {x z : Int} (hx : xs[i]? = some x) (hz : zs[i]? = some z) : okS p (xs.drop i) (zs.drop i) = (decide (p < x) && decide (1 ≤ z) && okS x (xs.drop (i + 1)) (zs.drop (i + 1))) := by
  obtain ⟨h1, e1⟩ := List.getElem?_eq_some_iff.1 hx
  obtain ⟨h2, e2⟩ := List.getElem?_eq_some_iff.1 hz
  rw [List.drop_eq_getElem_cons h1, List.drop_eq_getElem_cons h2, e1, e2, okS]
theorem okS_end {p : Int} {xs zs : List Int} {i : Nat} (h : xs.length ≤ i) : okS p (xs.drop i) (zs.drop i) = true := by
  rw [List.drop_of_length_le h]; rfl
structure Tab (xs zs : List Int) (m : Nat) : Prop where
  len : zs.length = xs.length
  ok : okS (-1) xs zs = true
  many : pr zs ≤ 2147483647
  cells : pr zs = (m : Int)
theorem chk_ok {xs zs : List Int} {m : Nat} (h : Tab xs zs m) : chkE xs zs m = 0 := by
  have h1 := okS_ones h.len h.ok
  have hn : negs zs = false := by
    cases hc : negs zs with
    | false => rfl
    | true =>
      obtain ⟨z, hz, e⟩ := List.any_eq_true.1 hc
      have := h1 z hz
      simp [isNeg] at e; omega
  obtain ⟨e1, e2⟩ := cnt_ok hn h.many
  simp [chkE, h.len, h.ok, e1, e2, h.cells]
theorem chk_tab {xs zs : List Int} {m : Nat} (h : chkE xs zs m = 0) : Tab xs zs m := by
  unfold chkE at h
  by_cases h1 : zs.length = xs.length
  · rw [if_neg (by simpa using h1)] at h
    by_cases h2 : okS (-1) xs zs = true
    · rw [if_neg (by simp [h2])] at h
      by_cases h3 : cntE zs = 0
      · rw [if_neg (by simpa using h3)] at h
        by_cases h4 : cntN zs = (m : Int)
        · obtain ⟨_, h5, h6⟩ := cntE_zero h3
          exact ⟨h1, h2, h5, by rw [← h6]; exact h4⟩
        · rw [if_pos (by simpa using h4)] at h; simp at h
      · rw [if_pos (by simpa using h3)] at h; exact absurd h h3
    · rw [if_pos (by simpa using h2)] at h; simp at h
  · rw [if_pos (by simpa using h1)] at h; simp at h
theorem Tab.ones {xs zs : List Int} {m : Nat} (h : Tab xs zs m) : ∀ z ∈ zs, 1 ≤ z := okS_ones h.len h.ok

end Go.Proofs.Ytphbbkckigdgoaa
