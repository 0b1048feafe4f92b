/-
  Proved here: how long a number's text is.
-/
import Derived.Test.YtcbfhakolfcmgaaText
namespace Go.Proofs.Ytcbfhakolfcmgaa

theorem txt_size (n : Nat) : (txt n).size = (wri n).length := by unfold txt; rw [strOfNums_size, List.length_map, chars_len]
theorem wri_len {n L : Nat} (h : (lim n).length ≤ L) : (wri n).length ≤ 32 * L + 1 := by
  unfold wri
  split
  · simp
  · rename_i h0
    rw [List.length_reverse]
    rcases Nat.lt_or_ge (32 * L + 1) (dec n).length with h1 | h1
    · exfalso
      obtain ⟨ds, d, hd⟩ : ∃ ds d, dec n = ds ++ [d] := ⟨(dec n).dropLast, (dec n).getLast (dec_ne h0), (List.dropLast_concat_getLast (dec_ne h0)).symm⟩
      have hw := wri_head h0 (wri_ne n)
      have hw2 : wri n = d :: ds.reverse := by unfold wri; rw [if_neg h0, hd, List.reverse_append]; rfl
      simp only [hw2, List.head_cons] at hw
      have h2 := dval_dec n
      rw [hd, dval_append] at h2
      simp only [dval, Nat.mul_zero, Nat.add_zero] at h2
      have h3 := dig_lt h2 hw (lim_lt_of_len h)
      rw [hd, List.length_append] at h1
      simp at h1
      omega
    · exact h1
theorem txt_short {n L : Nat} (h : (lim n).length ≤ L) : (txt n).size ≤ 32 * L + 1 := by rw [txt_size]; exact wri_len h
end Go.Proofs.Ytcbfhakolfcmgaa
