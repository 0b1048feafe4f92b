/-
  Proved here: plain facts on numbers that lie in memory, limb by limb, and on rows that a call made for itself. No condition.
-/
import Derived.Test.YtcadljpdokhpmaaMathAll
import Derived.WalkKit
import Derived.Below
import Derived.BigQuiet
namespace Go.Proofs.Ytcadljpdokhpmaa
open Go.RowKit

/-- A limb as a cell. -/
def U (x : Nat) : Value := .int .u32 (x : Int)
/-- A slice cut at k. -/
def cutTo : Value → Nat → Value
  | .slice a _ c, k => .slice a k c
  | v, _ => v
/-- A number that can be read: its limbs are xs. -/
def Num (w : World) (v : Value) (xs : List Nat) : Prop :=
  limbs xs ∧ ∃ ao cap, v = .slice ao xs.length cap ∧ xs.length ≤ cap ∧ cap ≤ maxLen ∧ (ao = none → cap = 0) ∧
    ∀ j, j < xs.length → ∃ b off, ao = some ⟨b, off, none⟩ ∧ w.cell? ⟨b, off + j, none⟩ = some (U (xs.getD j 0))
/-- A number in a row of the call's own. -/
def Own (B e : Nat) (w : World) (v : Value) (xs : List Nat) : Prop := limbs xs ∧ w.ownsRow B e 1 v xs.length (xs.map U)

theorem Num.lt {w : World} {v : Value} {xs : List Nat} (h : Num w v xs) : limbs xs := h.1
theorem Own.lt {B e : Nat} {w : World} {v : Value} {xs : List Nat} (h : Own B e w v xs) : limbs xs := h.1

theorem Num.cut {w : World} {v : Value} {xs : List Nat} (h : Num w v xs) {k : Nat} (hk : k ≤ xs.length) : Num w (cutTo v k) (xs.take k) := by
  obtain ⟨hb, ao, cap, rfl, h1, h2, h3, h4⟩ := h
  refine ⟨limbs_take hb k, ao, cap, by simp [cutTo, Nat.min_eq_left hk], by simp; omega, h2, h3, fun j hj => ?_⟩
  simp only [List.length_take] at hj
  obtain ⟨b, off, e, hc⟩ := h4 j (by omega)
  refine ⟨b, off, e, ?_⟩
  rw [hc, List.getD_eq_getElem?_getD, List.getD_eq_getElem?_getD, List.getElem?_take_of_lt (by omega)]

theorem Own.cut {B e : Nat} {w : World} {v : Value} {xs : List Nat} (h : Own B e w v xs) {k : Nat} (hk : k ≤ xs.length) : Own B e w (cutTo v k) (xs.take k) := by
  obtain ⟨hb, hl, h2⟩ := h
  refine ⟨limbs_take hb k, by simp, ?_⟩
  rcases h2 with ⟨rfl, h0⟩ | ⟨g, cap, cur, rfl, h3, h4, h5, h6, h7, h8⟩
  · left
    have : k = 0 := by omega
    subst this
    exact ⟨rfl, by simp⟩
  · right
    refine ⟨g, cap, cur, by simp [cutTo, Nat.min_eq_left hk], h3, h4, by simp; omega, h6, h7, ?_⟩
    simp only [Nat.mul_one] at h8 ⊢
    rw [List.length_take, Nat.min_eq_left hk, List.map_take, ← h8, List.take_take, Nat.min_eq_left hk]

theorem Own.num {B e : Nat} {w : World} {v : Value} {xs : List Nat} (h : Own B e w v xs) : Num w v xs := by
  obtain ⟨hb, h⟩ := h
  refine ⟨hb, ?_⟩
  have hw := h
  rcases h.2 with ⟨rfl, h0⟩ | ⟨g, cap, cur, rfl, h3, h4, h5, h6, h7, h8⟩
  · refine ⟨none, 0, by rw [h0], by omega, by simp [maxLen], fun _ => rfl, fun j hj => by omega⟩
  · refine ⟨some ⟨g, 0, none⟩, cap, rfl, h5, h6, fun e => by simp at e, fun j hj => ⟨g, 0, rfl, ?_⟩⟩
    rw [Nat.zero_add, World.ownsRow.cellAt hw j (by simpa using hj), List.getElem?_map, List.getD_eq_getElem?_getD, List.getElem?_eq_getElem hj]
    rfl

theorem Num.below {B : Nat} {w w' : World} {v : Value} {xs : List Nat} (h : Num w v xs) (hB : w.heap.size ≤ B) (hb : Below B w w') : Num w' v xs := by
  obtain ⟨h0, ao, cap, rfl, h1, h2, h3, h4⟩ := h
  refine ⟨h0, ao, cap, rfl, h1, h2, h3, fun j hj => ?_⟩
  obtain ⟨b, off, e, hc⟩ := h4 j hj
  refine ⟨b, off, e, ?_⟩
  rw [hb.cell (p := ⟨b, off + j, none⟩) (Nat.lt_of_lt_of_le (block_lt_of_cell hc) hB), hc]

theorem Own.below {B e : Nat} {w w' : World} {v : Value} {xs : List Nat} (h : Own B e w v xs) (hb : Below w.heap.size w w') : Own B e w' v xs := by
  obtain ⟨h0, h1, h2⟩ := h
  refine ⟨h0, h1, ?_⟩
  rcases h2 with h2 | ⟨g, cap, cur, rfl, h3, h4, h5⟩
  · exact Or.inl h2
  · exact Or.inr ⟨g, cap, cur, rfl, h3, by rw [hb.block g (Array.getElem?_eq_some_iff.1 h4).1]; exact h4, h5⟩

theorem Own.mono {B B' e : Nat} {w : World} {v : Value} {xs : List Nat} (h : Own B e w v xs) (hB : B' ≤ B) : Own B' e w v xs := by
  obtain ⟨h0, h1, h2⟩ := h
  refine ⟨h0, h1, ?_⟩
  rcases h2 with h2 | ⟨g, cap, cur, rfl, h3, h5⟩
  · exact Or.inl h2
  · exact Or.inr ⟨g, cap, cur, rfl, by omega, h5⟩

theorem Own.block {B e : Nat} {w : World} {v : Value} {xs : List Nat} (h : Own B e w v xs) : ∀ k, v.ownBlock = some k → B ≤ k ∧ k < w.heap.size := World.ownsRow.lt h.2

theorem heap_drewN (w : World) (n : Nat) : (w.drewN n).heap = w.heap := by
  induction n generalizing w with
  | zero => rfl
  | succ n ih => exact ih w.drew
theorem Num.same {w w' : World} {v : Value} {xs : List Nat} (h : Num w v xs) (e : w'.heap = w.heap) : Num w' v xs := by
  obtain ⟨h0, ao, cap, rfl, h1, h2, h3, h4⟩ := h
  refine ⟨h0, ao, cap, rfl, h1, h2, h3, fun j hj => ?_⟩
  obtain ⟨b, off, e', hc⟩ := h4 j hj
  exact ⟨b, off, e', by rw [← hc]; exact World.cell?_of_block (by rw [e])⟩
theorem Num.drewN {w : World} {v : Value} {xs : List Nat} (h : Num w v xs) (n : Nat) : Num (w.drewN n) v xs := h.same (heap_drewN w n)
theorem Own.same {B e : Nat} {w w' : World} {v : Value} {xs : List Nat} (h : Own B e w v xs) (he : w'.heap = w.heap) : Own B e w' v xs := by
  obtain ⟨h0, h1, h2⟩ := h
  exact ⟨h0, h1, by rw [he]; exact h2⟩
theorem Own.drewN {B e : Nat} {w : World} {v : Value} {xs : List Nat} (h : Own B e w v xs) (n : Nat) : Own B e (w.drewN n) v xs := h.same (heap_drewN w n)
theorem Num.of_nil (w : World) : Num w (.slice none 0 0) [] := ⟨limbs_nil, none, 0, rfl, by simp, by simp [maxLen], fun _ => rfl, fun j hj => by simp at hj⟩
theorem Own.of_nil (B e : Nat) (w : World) : Own B e w (.slice none 0 0) [] := ⟨limbs_nil, World.ownsRow_nil _ _ _ _⟩
/-- A row that was just laid. -/
theorem Own.lit {B : Nat} (e : Nat) (w : World) (cs : Array Value) (xs : List Nat) (hb : limbs xs) (hB : B ≤ w.heap.size) (hm : xs.length ≤ maxLen) (hc : cs.toList = xs.map U) :
    Own B e (w.alloc (.cells cs e)) (.slice (some ⟨w.heap.size, 0, none⟩) xs.length xs.length) xs := by
  refine ⟨hb, by simp, Or.inr ⟨w.heap.size, xs.length, cs, rfl, hB, heap_alloc_new w _, Nat.le_refl _, hm, ?_, ?_⟩⟩
  · have := congrArg List.length hc
    simpa using this
  · rw [hc]; exact List.take_of_length_le (by simp)
/-- What is read of a number with room behind it. -/
theorem Num.open_ {w : World} {v : Value} {xs : List Nat} (h : Num w v xs) : limbs xs ∧ ∃ ao cap, v = .slice ao xs.length cap ∧ xs.length ≤ cap ∧ cap ≤ 9223372036854775807 ∧ (ao = none → cap = 0) ∧
    ∀ j, j < xs.length → ∃ b off, ao = some ⟨b, off, none⟩ ∧ w.cell? ⟨b, off + j, none⟩ = some (.int .u32 ((xs.getD j 0 : Nat) : Int)) := h
end Go.Proofs.Ytcadljpdokhpmaa
