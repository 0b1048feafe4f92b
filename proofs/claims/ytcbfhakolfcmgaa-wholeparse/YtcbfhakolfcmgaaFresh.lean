/-
  Proved here: what fresh and Norm answer.
-/
import Derived.Test.YtcbfhakolfcmgaaAdd
import Derived.Laws.CopyOwn
namespace Go.Proofs.Ytcbfhakolfcmgaa
open Go.RowKit

theorem lim_len_of_lt {a b : Nat} (h : a ≤ b) : (lim a).length ≤ (lim b).length := lim_len_le (Nat.lt_of_le_of_lt h (lim_lt_of_len (Nat.le_refl _)))
theorem Try.sizeU : (Try.prog.info? 30).map (·.size) = some 1 := by kernel_rfl
theorem splice_all {L cs : List Value} (h : cs.length = L.length) : splice L 0 cs = cs := by
  simp only [splice, List.take_zero, List.nil_append, Nat.zero_add]
  rw [List.drop_of_length_le (by omega), List.append_nil]

end Go.Proofs.Ytcbfhakolfcmgaa
