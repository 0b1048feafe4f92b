/-
  Proved here: mathematics of a stable sort (no program): one thing merged into a list; two sorted lists parted at two places; what stands where in an array of four lists.
-/
import Derived.Test.YtcadljpdokhpmaaSortAIAll
namespace Go.Proofs.Ytcadljpdokhpmaa
open Go.Sort
section
variable {α : Type} [Inhabited α] {le : α → α → Bool}
theorem list_get! (l : List α) (i : Nat) (h : i < l.length) : l[i]! = l[i] := getElem!_pos l i h
theorem get_A (P A B Q : List α) (a m : Nat) (hP : P.length = a) (hA : a + A.length = m) (i : Nat) (h1 : a ≤ i) (h2 : i < m) : (P ++ A ++ B ++ Q).toArray[i]! = A[i - a]! := by
  rw [arr_get? _ _ (by simp; omega), list_get! A _ (by omega)]
  rw [List.getElem_append_left (by simp; omega), List.getElem_append_left (by simp; omega), List.getElem_append_right (by omega)]
  simp [hP]
theorem get_B (P A B Q : List α) (a m b : Nat) (hP : P.length = a) (hA : a + A.length = m) (hB : m + B.length = b) (i : Nat) (h1 : m ≤ i) (h2 : i < b) : (P ++ A ++ B ++ Q).toArray[i]! = B[i - m]! := by
  rw [arr_get? _ _ (by simp; omega), list_get! B _ (by omega)]
  rw [List.getElem_append_left (by simp; omega), List.getElem_append_right (by simp; omega)]
  congr 1
  simp
  omega
omit [Inhabited α] in
theorem Ord.refl (O : Ord le) (x : α) : le x x = true := by rcases O.total x x with h | h <;> exact h
theorem srt_get (O : Ord le) {l : List α} (h : Srt le l) (i j : Nat) (hij : i ≤ j) (hj : j < l.length) : le l[i]! l[j]! = true := by
  rw [list_get! l i (by omega), list_get! l j hj]
  by_cases e : i = j
  · subst e; exact O.refl _
  · exact (List.pairwise_iff_getElem.1 h) i j (by omega) hj (by omega)
omit [Inhabited α] in
theorem le_yes {lt : α → α → Bool} {x y : α} (h : lt y x = false) : leOf lt x y = true := by simp [leOf, h]
omit [Inhabited α] in
theorem le_no {lt : α → α → Bool} {x y : α} (h : lt y x = true) : leOf lt x y = false := by simp [leOf, h]
omit [Inhabited α] in
theorem le_off {lt : α → α → Bool} {x y : α} (h : lt y x = true) (h2 : leOf lt x y = true) : False := by rw [le_no h] at h2; exact absurd h2 (by simp)
theorem mrg_one_left (x : α) : ∀ (B : List α) (k : Nat), k ≤ B.length → (∀ t, t < k → le x B[t]! = false) → (k < B.length → le x B[k]! = true) → mrg le [x] B = B.take k ++ x :: B.drop k
  | [], k, hk, _, _ => by simp [mrg_nil_right]
  | y :: B, 0, _, _, h2 => by
    have := h2 (by simp)
    simp at this
    rw [mrg_yes _ _ this, mrg_nil_left]; rfl
  | y :: B, k + 1, hk, h1, h2 => by
    have h0 := h1 0 (by omega)
    simp at h0
    rw [mrg_no _ _ h0, mrg_one_left x B k (by simpa using hk) (fun t ht => by simpa using h1 (t + 1) (by omega)) (fun h => by simpa using h2 (by simpa using h))]
    rfl
theorem mrg_one_right (y : α) : ∀ (A : List α) (k : Nat), k ≤ A.length → (∀ t, t < k → le A[t]! y = true) → (k < A.length → le A[k]! y = false) → mrg le A [y] = A.take k ++ y :: A.drop k
  | [], k, hk, _, _ => by simp [mrg_nil_left]
  | x :: A, 0, _, _, h2 => by
    have := h2 (by simp)
    simp at this
    rw [mrg_no _ _ this, mrg_nil_right]; rfl
  | x :: A, k + 1, hk, h1, h2 => by
    have h0 := h1 0 (by omega)
    simp at h0
    rw [mrg_yes _ _ h0, mrg_one_right y A k (by simpa using hk) (fun t ht => by simpa using h1 (t + 1) (by omega)) (fun h => by simpa using h2 (by simpa using h))]
    rfl
theorem mem_take_get {l : List α} {s : Nat} {x : α} (h : x ∈ l.take s) : ∃ i, i < s ∧ i < l.length ∧ l[i]! = x := by
  obtain ⟨i, hi, e⟩ := List.mem_iff_getElem.1 h
  rw [List.length_take] at hi
  exact ⟨i, by omega, by omega, by rw [list_get! l i (by omega), ← e, List.getElem_take]⟩
theorem mem_drop_get {l : List α} {s : Nat} {x : α} (h : x ∈ l.drop s) : ∃ i, s ≤ i ∧ i < l.length ∧ l[i]! = x := by
  obtain ⟨i, hi, e⟩ := List.mem_iff_getElem.1 h
  rw [List.length_drop] at hi
  exact ⟨s + i, by omega, by omega, by rw [list_get! l _ (by omega), ← e, List.getElem_drop]⟩
theorem mrg_parts (O : Ord le) {A B : List α} (hA : Srt le A) (hB : Srt le B) (s r : Nat) (h1 : 0 < s → s ≤ A.length → r < B.length → le A[s - 1]! B[r]! = true) (h2 : s < A.length → 0 < r → r ≤ B.length → le A[s]! B[r - 1]! = false)
    (hs : s ≤ A.length) (hr : r ≤ B.length) : mrg le A B = mrg le (A.take s) (B.take r) ++ mrg le (A.drop s) (B.drop r) := by
  have := mrg_split (le := le) _ (A.take s) (A.drop s) (B.take r) (B.drop r) (Nat.le_refl _) ?_ ?_
  · rwa [List.take_append_drop, List.take_append_drop] at this
  · intro x hx y hy
    obtain ⟨i, hi1, hi2, rfl⟩ := mem_take_get hx
    obtain ⟨j, hj1, hj2, rfl⟩ := mem_drop_get hy
    exact O.trans _ _ _ (srt_get O hA i (s - 1) (by omega) (by omega)) (O.trans _ _ _ (h1 (by omega) hs (by omega)) (srt_get O hB r j hj1 hj2))
  · intro x hx y hy
    obtain ⟨i, hi1, hi2, rfl⟩ := mem_drop_get hx
    obtain ⟨j, hj1, hj2, rfl⟩ := mem_take_get hy
    have h := h2 (by omega) (by omega) hr
    cases e : le A[i]! B[j]! with
    | false => rfl
    | true =>
      have := O.trans _ _ _ (srt_get O hA s i hi1 hi2) (O.trans _ _ _ e (srt_get O hB j (r - 1) (by omega) (by omega)))
      rw [h] at this
      exact absurd this (by simp)
omit [Inhabited α] in
theorem srt_take {l : List α} (h : Srt le l) (s : Nat) : Srt le (l.take s) := List.Pairwise.sublist (List.take_sublist s l) h
omit [Inhabited α] in
theorem srt_drop {l : List α} (h : Srt le l) (s : Nat) : Srt le (l.drop s) := List.Pairwise.sublist (List.drop_sublist s l) h
/-- one thing moved to the right through a list -/
def movR (P B Q : List α) (x : α) (k : Nat) : Array α := (P ++ B.take k ++ x :: B.drop k ++ Q).toArray
omit [Inhabited α] in
theorem movR_zero (P B Q : List α) (x : α) : (P ++ [x] ++ B ++ Q).toArray = movR P B Q x 0 := by simp [movR]
omit [Inhabited α] in
theorem movR_all (P B Q : List α) (x : α) (k : Nat) (h : B.length = k) : (P ++ B ++ [x] ++ Q).toArray = movR P B Q x k := by
  subst h; simp [movR]
omit [Inhabited α] in
theorem movR_size (P B Q : List α) (x : α) (k : Nat) : (movR P B Q x k).size = P.length + 1 + B.length + Q.length := by
  simp [movR]; omega
theorem movR_next (P B Q : List α) (x : α) (k a i : Nat) (hP : P.length = a) (hk : k < B.length) (hi : a + k = i) : swp (movR P B Q x k) i (i + 1) = movR P B Q x (k + 1) := by
  obtain ⟨u, hu1, hu2⟩ := drop_head hk
  unfold movR
  rw [hu1, hu2]
  have e : P ++ B.take k ++ x :: (u :: B.drop (k + 1)) ++ Q = (P ++ B.take k) ++ x :: ([] ++ u :: (B.drop (k + 1) ++ Q)) := by simp
  rw [e, arr_swp _ _ _ _ _ i (i + 1) (by simp; omega) (by simp; omega)]
  simp
theorem movR_back (P B Q : List α) (x : α) (k a i : Nat) (hP : P.length = a) (hk : k < B.length) (hi : a + k + 1 = i) : swp (movR P B Q x (k + 1)) i (i - 1) = movR P B Q x k := by
  obtain ⟨u, hu1, hu2⟩ := drop_head hk
  unfold movR
  rw [hu1, hu2]
  have e : P ++ (B.take k ++ [u]) ++ x :: B.drop (k + 1) ++ Q = (P ++ B.take k) ++ u :: ([] ++ x :: (B.drop (k + 1) ++ Q)) := by simp
  rw [e, arr_swp' _ _ _ _ _ (i - 1) i (by simp; omega) (by simp; omega)]
  simp
end
end Go.Proofs.Ytcadljpdokhpmaa
