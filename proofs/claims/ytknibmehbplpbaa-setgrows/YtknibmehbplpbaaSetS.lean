/-
  Proved here: layer 11's law.go: long and spoilt.
-/
import Derived.Test.YtknibmehbplpbaaSetR
import Derived.Test.YtknibmehbplpbaaPush
namespace Go.Proofs.Ytknibmehbplpbaa
open Go.Shelf Go.RowKit Go.Lib Go.Sort
/-- an append to a row that lies where rb does, or beyond w, leaves all else of w -/
theorem grown_row {w w1 w2 : World} {vm : Value} {rb : Option Nat} (hg : w1.grownBy w2 vm.ownBlock) (h : vm.ownBlock = rb ∨ ∀ g, vm.ownBlock = some g → w.heap.size ≤ g) (h0 : w.grownBy w1 rb) : w.grownBy w2 rb := by
  refine ⟨hg.os.trans h0.os, hg.tape.trans h0.tape, hg.output.trans h0.output, Nat.le_trans h0.size hg.size, fun k hk hne => ?_⟩
  rw [← h0.block k hk hne]
  refine hg.block k (Nat.lt_of_lt_of_le hk h0.size) ?_
  rcases h with h | h
  · rw [h]; exact hne
  · intro e
    have := h k e.symm
    omega
/-- a list with its marks -/
def lgI (L : List Int) (i : Nat) : List Int := L ++ (List.range i).map fun (k : Nat) => (90000 + (k : Int))
theorem lgI_succ (L : List Int) (i : Nat) : lgI L (i + 1) = lgI L i ++ [90000 + (i : Int)] := by simp [lgI, List.range_succ]
theorem lgI_zero (L : List Int) : lgI L 0 = L := by simp [lgI]
theorem lgI_len (L : List Int) (i : Nat) : (lgI L i).length = L.length + i := by simp [lgI]
theorem set_marks {L : List Int} {n i : Nat} (mark : Int) (hl : L.length = n) (h : i < n) : (List.replicate i mark ++ L.drop i).set i mark = List.replicate (i + 1) mark ++ L.drop (i + 1) := by
  have hd : L.drop i = L[i] :: L.drop (i + 1) := List.drop_eq_getElem_cons (by omega)
  rw [hd, List.replicate_succ', List.set_append_right _ _ (by simp)]
  simp only [List.length_replicate, Nat.sub_self, List.set_cons_zero, List.append_assoc, List.singleton_append]
/-- marks, and what is gone on with -/
def mkI (n : Nat) (mark : Int) (j : Nat) : List Int := List.replicate n mark ++ List.replicate j 7
theorem mkI_zero (n : Nat) (mark : Int) : mkI n mark 0 = List.replicate n mark := by simp [mkI]
theorem mkI_succ (n : Nat) (mark : Int) (j : Nat) : mkI n mark (j + 1) = mkI n mark j ++ [7] := by unfold mkI; rw [List.append_assoc, ← List.replicate_succ']
theorem mkI_len (n : Nat) (mark : Int) (j : Nat) : (mkI n mark j).length = n + j := by simp [mkI]
theorem mkI_at (n : Nat) (mark : Int) (j k : Nat) (h : k < n) : (mkI n mark j)[k]? = some mark := by unfold mkI; rw [List.getElem?_append_left (by simpa using h), List.getElem?_replicate, if_pos h]
end Go.Proofs.Ytknibmehbplpbaa
