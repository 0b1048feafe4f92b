/-
  Proved here: a row of the call's own, sorted by the shelf's words on worlds, is such a row still, and all else stands.
-/
import Derived.Test.YtcadljpdokhpmaaRowG
import Derived.Test.YtcadljpdokhpmaaSortMath3
import Derived.Shelf.SlSortCmp.Kit1
namespace Go.Proofs.Ytcadljpdokhpmaa
open Go.Shelf Go.RowKit Go.Lib Go.Sort
variable {α : Type} [Inhabited α] {enc : α → Value}

omit [Inhabited α] in
theorem OG.lt' {B e g n cap : Nat} {w : World} {zs : List α} (h : OG enc B e w (.slice (some ⟨g, 0, none⟩) n cap) zs) : g < w.heap.size := (h.lt g rfl).2
theorem OG.row1 {B e g n cap : Nat} {w : World} {zs : List α} (hO : OneCell enc) (h : OG enc B e w (.slice (some ⟨g, 0, none⟩) n cap) zs) : Row1 enc w g 0 zs.toArray :=
  ⟨hO, fun j hj => by
    have hj' : j < zs.length := by simpa using hj
    have := h.cell (i := j) (x := zs.toArray[j]!) (by rw [arr_get? _ _ hj', List.getElem?_eq_getElem hj'])
    rw [Nat.zero_add]; exact this, h.lt'⟩
theorem OG.sw {B e g n cap : Nat} {w w' : World} {zs zs' : List α} (h : OG enc B e w (.slice (some ⟨g, 0, none⟩) n cap) zs) (hl : zs'.length = zs.length) (hS : SW enc w g 0 zs'.toArray w') :
    OG enc B e w' (.slice (some ⟨g, 0, none⟩) n cap) zs' ∧ w.grownBy w' (some g) := by
  obtain ⟨m, os, rfl⟩ := hS
  have hg := h.lt'
  have hp : (putRow enc (Sort.ahead w m) g 0 zs'.toArray).heap.size = w.heap.size := size_putRow _ _ _ _ _
  have hother : ∀ j, j < w.heap.size → j ≠ g → (sortWorld enc w g 0 m zs'.toArray os).heap[j]? = w.heap[j]? := by
    intro j hj hne
    show ((putRow enc (Sort.ahead w m) g 0 zs'.toArray).heap ++ os)[j]? = _
    rw [Array.getElem?_append_left (by rw [hp]; exact hj)]
    show (w.heap.modify g _)[j]? = _
    rw [Array.getElem?_modify, if_neg (Ne.symm hne)]
  refine ⟨?_, rfl, rfl, rfl, ?_, ?_⟩
  · obtain ⟨h1, h2⟩ := h
    refine ⟨by simp, ?_⟩
    rcases h2 with ⟨e1, _⟩ | ⟨g', cap', cur, e1, h3, h4, h5, h6, h7, h8⟩
    · simp at e1
    · simp only [Value.slice.injEq, Option.some.injEq, Addr.mk.injEq, and_true] at e1
      obtain ⟨rfl, rfl, rfl⟩ := e1
      refine .inr ⟨g, cap, putCells enc 0 zs'.toArray cur, by rw [hl], h3, ?_, by rw [hl]; exact h5, h6, by simp only [putCells, Array.size_mapIdx]; exact h7, ?_⟩
      · show ((putRow enc (Sort.ahead w m) g 0 zs'.toArray).heap ++ os)[g]? = _
        rw [Array.getElem?_append_left (by rw [hp]; exact hg)]
        show (w.heap.modify g _)[g]? = _
        rw [Array.getElem?_modify, if_pos rfl, h4]
        rfl
      · apply List.ext_getElem?
        intro i
        rw [Nat.mul_one] at h7 ⊢
        by_cases hi : i < zs'.length
        · rw [List.getElem?_take_of_lt hi, Array.getElem?_toList, List.getElem?_map, List.getElem?_eq_getElem hi]
          simp only [putCells, Array.getElem?_mapIdx]
          rw [Array.getElem?_eq_getElem (by omega)]
          simp only [Option.map_some, Nat.zero_le, true_and, Nat.zero_add, List.size_toArray, Nat.sub_zero]
          rw [if_pos hi, arr_get? _ _ hi]
        · rw [List.getElem?_eq_none (by rw [List.length_take]; omega), List.getElem?_eq_none (by rw [List.length_map]; omega)]
  · show w.heap.size ≤ ((putRow enc (Sort.ahead w m) g 0 zs'.toArray).heap ++ os).size
    rw [Array.size_append, hp]
    omega
  · intro j hj hne
    exact hother j hj (fun e => hne (by rw [e]))
end Go.Proofs.Ytcadljpdokhpmaa
