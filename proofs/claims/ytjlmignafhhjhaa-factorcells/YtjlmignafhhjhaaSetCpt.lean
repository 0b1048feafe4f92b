/-
  Proved here: mathematics of lists from which what repeats its forerunner is left out (no program); and a few plain facts on rows of the call's own.
-/
import Derived.Test.YtjlmignafhhjhaaSortW
import Derived.Lib.SliceRun
namespace Go.Proofs.Ytjlmignafhhjhaa
open Go.Shelf Go.RowKit Go.Lib Go.Sort
section
variable {α : Type}
/-- what is left behind p -/
def cptF (eq : α → α → Bool) : α → List α → List α
  | _, [] => []
  | p, x :: l => if eq x p then cptF eq x l else x :: cptF eq x l
def cpt (eq : α → α → Bool) : List α → List α
  | [] => []
  | x :: l => x :: cptF eq x l
variable {eq : α → α → Bool}
theorem cptF_yes {x p : α} (l : List α) (h : eq x p = true) : cptF eq p (x :: l) = cptF eq x l := by rw [cptF, if_pos h]
theorem cptF_no {x p : α} (l : List α) (h : eq x p = false) : cptF eq p (x :: l) = x :: cptF eq x l := by rw [cptF, if_neg (by simp [h])]
/-- the first k things are all kept -/
def CpA (eq : α → α → Bool) (L : List α) (k : Nat) : Prop := ∃ p, L[k - 1]? = some p ∧ L.take k ++ cptF eq p (L.drop k) = cpt eq L
/-- D is kept of what stands ahead of place j -/
def CpB (eq : α → α → Bool) (L D : List α) (j : Nat) : Prop := ∃ p, L[j - 1]? = some p ∧ D ++ cptF eq p (L.drop j) = cpt eq L
theorem CpA.start {L : List α} (h : 0 < L.length) : CpA eq L 1 := by
  cases L with
  | nil => simp at h
  | cons x l => exact ⟨x, rfl, rfl⟩
theorem drop_cons {L : List α} {k : Nat} {x : α} (h : L[k]? = some x) : L.drop k = x :: L.drop (k + 1) := by
  obtain ⟨hk, rfl⟩ := List.getElem?_eq_some_iff.1 h
  exact List.drop_eq_getElem_cons hk
theorem take_snoc {L : List α} {k : Nat} {x : α} (h : L[k]? = some x) : L.take (k + 1) = L.take k ++ [x] := by
  rw [List.take_add_one, h]; rfl
theorem CpA.next {L : List α} {k : Nat} {x p : α} (h : CpA eq L k) (hx : L[k]? = some x) (hp : L[k - 1]? = some p) (he : eq x p = false) : CpA eq L (k + 1) := by
  obtain ⟨q, hq, h⟩ := h
  rw [hp] at hq
  cases hq
  refine ⟨x, by simpa using hx, ?_⟩
  rw [← h, drop_cons hx, cptF_no _ he, take_snoc hx]
  simp
theorem CpA.turn {L : List α} {k : Nat} {x p : α} (h : CpA eq L k) (hx : L[k]? = some x) (hp : L[k - 1]? = some p) (he : eq x p = true) : CpB eq L (L.take k) (k + 1) := by
  obtain ⟨q, hq, h⟩ := h
  rw [hp] at hq
  cases hq
  refine ⟨x, by simpa using hx, ?_⟩
  rw [← h, drop_cons hx, cptF_yes _ he]
theorem CpA.all {L : List α} {k : Nat} (h : CpA eq L k) (hk : L.length ≤ k) : cpt eq L = L := by
  obtain ⟨p, _, h⟩ := h
  rw [← h, List.drop_of_length_le hk, List.take_of_length_le hk]
  simp [cptF]
theorem CpB.skip {L D : List α} {j : Nat} {x p : α} (h : CpB eq L D j) (hx : L[j]? = some x) (hp : L[j - 1]? = some p) (he : eq x p = true) : CpB eq L D (j + 1) := by
  obtain ⟨q, hq, h⟩ := h
  rw [hp] at hq
  cases hq
  exact ⟨x, by simpa using hx, by rw [← h, drop_cons hx, cptF_yes _ he]⟩
theorem CpB.keep {L D : List α} {j : Nat} {x p : α} (h : CpB eq L D j) (hx : L[j]? = some x) (hp : L[j - 1]? = some p) (he : eq x p = false) : CpB eq L (D ++ [x]) (j + 1) := by
  obtain ⟨q, hq, h⟩ := h
  rw [hp] at hq
  cases hq
  exact ⟨x, by simpa using hx, by rw [← h, drop_cons hx, cptF_no _ he]; simp⟩
theorem CpB.done {L D : List α} {j : Nat} (h : CpB eq L D j) (hj : L.length ≤ j) : cpt eq L = D := by
  obtain ⟨p, _, h⟩ := h
  rw [← h, List.drop_of_length_le hj]
  simp [cptF]
theorem cpt_small (L : List α) (h : L.length < 2) : cpt eq L = L := by
  match L, h with
  | [], _ => rfl
  | [x], _ => rfl
/-- what is written so far, and the rest as it was -/
theorem put_at {D L : List α} {k : Nat} {x y : α} (hD : D.length = k) (hy : L[k]? = some y) : (D ++ L.drop k).set k x = (D ++ [x]) ++ L.drop (k + 1) := by
  subst hD
  rw [drop_cons hy]
  simp
end
section
variable {α : Type} {enc : α → Value}
theorem OG.cut {B e g n cap m : Nat} {w : World} {C : List α} (h : OG enc B e w (.slice (some ⟨g, 0, none⟩) n cap) C) (hm : m ≤ C.length) : OG enc B e w (.slice (some ⟨g, 0, none⟩) m cap) (C.take m) := by
  obtain ⟨h1, h2⟩ := h
  refine ⟨by simp, ?_⟩
  rcases h2 with ⟨e1, _⟩ | ⟨g', cap', cur, e1, h3, h4, h5, h6, h7, h8⟩
  · simp at e1
  · simp only [Value.slice.injEq, Option.some.injEq, Addr.mk.injEq, and_true] at e1
    obtain ⟨rfl, rfl, rfl⟩ := e1
    refine .inr ⟨g, cap, cur, by rw [List.length_take, Nat.min_eq_left hm], h3, h4, by rw [List.length_take]; omega, h6, h7, ?_⟩
    rw [List.length_take, Nat.min_eq_left hm, Nat.mul_one, List.map_take, ← h8, List.take_take, Nat.mul_one, Nat.min_eq_left hm]
theorem OG.cl {B e g n cap : Nat} {w : World} {C : List α} (h : OG enc B e w (.slice (some ⟨g, 0, none⟩) n cap) C) {i : Nat} {x : α} (hx : C[i]? = some x) (m : Nat) (os : Array Obj) : (grow (w.drewN m) os).cell? ⟨g, i, none⟩ = some (enc x) := by
  rw [cell?_grow _ _ _ (by rw [heap_drewG]; exact (h.lt g rfl).2)]
  exact ((OG.of_blocks h fun j _ => by rw [heap_drewG] : OG enc B e (w.drewN m) _ C).cell hx).1
theorem drewN_same (w : World) : ∀ m : Nat, (w.drewN m).os = w.os ∧ (w.drewN m).tape = w.tape ∧ (w.drewN m).output = w.output
  | 0 => ⟨rfl, rfl, rfl⟩
  | m + 1 => drewN_same w.drew m
theorem grown_grow (w : World) (m : Nat) (os : Array Obj) (r : Option Nat) : w.grownBy (grow (w.drewN m) os) r := by
  have h : (grow (w.drewN m) os).heap = w.heap ++ os := by show (w.drewN m).heap ++ os = _; rw [heap_drewG]
  refine ⟨?_, ?_, ?_, ?_, ?_⟩
  · exact (drewN_same w m).1
  · exact (drewN_same w m).2.1
  · exact (drewN_same w m).2.2
  · rw [h, Array.size_append]; omega
  · intro j hj _
    rw [h, Array.getElem?_append_left hj]
theorem OG.grow {B e : Nat} {w : World} {v : Value} {C : List α} (h : OG enc B e w v C) (m : Nat) (os : Array Obj) : OG enc B e (Go.Sort.grow (w.drewN m) os) v C :=
  h.of_blocks fun j hj => by
    show ((w.drewN m).heap ++ os)[j]? = _
    rw [heap_drewG, Array.getElem?_append_left (h.lt j hj).2]
theorem OG.sets {B e g n cap : Nat} (z : α) : ∀ (m k : Nat) {w : World} {C : List α}, OG enc B e w (.slice (some ⟨g, 0, none⟩) n cap) C → C.length = n →
    ∃ C', OG enc B e (w.setCells g k (List.replicate m (enc z))) (.slice (some ⟨g, 0, none⟩) n cap) C' ∧ C'.length = n ∧ C'.take k = C.take k ∧ w.grownBy (w.setCells g k (List.replicate m (enc z))) (some g)
  | 0, k, w, C, h, hn => ⟨C, h, hn, rfl, grownG_refl _ _⟩
  | m + 1, k, w, C, h, hn => by
    obtain ⟨h1, h2⟩ := h.set hn k z
    obtain ⟨C', h3, h4, h5, h6⟩ := OG.sets z m (k + 1) h1 (by rw [List.length_set]; exact hn)
    refine ⟨C', h3, h4, ?_, ?_⟩
    · have := congrArg (List.take k) h5
      rw [List.take_take, List.take_take, Nat.min_eq_left (Nat.le_succ k)] at this
      rw [this]
      apply List.ext_getElem?
      intro i
      by_cases hi : i < k
      · rw [List.getElem?_take_of_lt hi, List.getElem?_take_of_lt hi, List.getElem?_set, if_neg (by omega)]
      · rw [List.getElem?_eq_none (by rw [List.length_take]; omega), List.getElem?_eq_none (by rw [List.length_take]; omega)]
    · exact h2.trans h6
end
end Go.Proofs.Ytjlmignafhhjhaa
