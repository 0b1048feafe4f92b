/-
  Proved here: mathematics of a stable sort (no program): what an exchange of two ranges leaves, place by place; what a turn is.
-/
import Derived.Test.YtjlmignafhhjhaaSortMath
namespace Go.Proofs.Ytjlmignafhhjhaa
open Go.Sort
section
variable {α : Type}
/-- two ranges, exchanged up to place i -/
def swrA (P U M V Q : List α) (i : Nat) : Array α := (P ++ V.take i ++ U.drop i ++ M ++ U.take i ++ V.drop i ++ Q).toArray
theorem swrA_zero (P U M V Q : List α) : (P ++ U ++ M ++ V ++ Q).toArray = swrA P U M V Q 0 := by simp [swrA]
theorem swrA_end (P U M V Q : List α) (k : Nat) (hU : U.length = k) (hV : V.length = k) : swrA P U M V Q k = (P ++ V ++ M ++ U ++ Q).toArray := by
  unfold swrA
  rw [List.take_of_length_le (by omega), List.drop_of_length_le (l := U) (by omega), List.take_of_length_le (l := U) (by omega), List.drop_of_length_le (l := V) (by omega)]
  simp
theorem swrA_size (P U M V Q : List α) (k n : Nat) (hU : U.length = k) (hV : V.length = k) (hn : (P ++ U ++ M ++ V ++ Q).length = n) (i : Nat) : (swrA P U M V Q i).size = n := by
  simp only [swrA, List.size_toArray, List.length_append, List.length_take, List.length_drop] at hn ⊢
  omega
theorem drop_head {l : List α} {i : Nat} (h : i < l.length) : ∃ x, l.drop i = x :: l.drop (i + 1) ∧ l.take (i + 1) = l.take i ++ [x] :=
  ⟨l[i], List.drop_eq_getElem_cons h, by rw [List.take_add_one, List.getElem?_eq_getElem h]; rfl⟩
end
section
variable {α : Type} [Inhabited α]
theorem swrA_next (P U M V Q : List α) (k a b : Nat) (hP : P.length = a) (hU : U.length = k) (hV : V.length = k) (hM : a + k + M.length = b) (i : Nat) (hi : i < k) :
    swp (swrA P U M V Q i) (a + i) (b + i) = swrA P U M V Q (i + 1) := by
  obtain ⟨u, hu1, hu2⟩ := drop_head (l := U) (i := i) (by omega)
  obtain ⟨v, hv1, hv2⟩ := drop_head (l := V) (i := i) (by omega)
  unfold swrA
  rw [hu1, hv1, hu2, hv2]
  have e : P ++ V.take i ++ u :: U.drop (i + 1) ++ M ++ U.take i ++ v :: V.drop (i + 1) ++ Q = (P ++ V.take i) ++ u :: ((U.drop (i + 1) ++ M ++ U.take i) ++ v :: (V.drop (i + 1) ++ Q)) := by simp
  rw [e, arr_swp _ _ _ _ _ (a + i) (b + i) (by simp; omega) (by simp; omega)]
  simp
end
end Go.Proofs.Ytjlmignafhhjhaa
