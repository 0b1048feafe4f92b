/-
  Proved here: plain facts (no program): a box of one cell; strictly rising lists by whatever order: where a thing stands tells whether it is in; what is left of sorting and leaving out rises.
-/
import Derived.Test.YtjlmignafhhjhaaSetDIAll
namespace Go.Proofs.Ytjlmignafhhjhaa
open Go.Shelf Go.RowKit Go.Lib Go.Sort
/-- a box of one cell -/
def SCell (T : TypeId) (w : World) (g : Nat) (v : Value) : Prop := w.heap[g]? = some (.cells #[v] T (0, 0))
section
variable {T : TypeId} {w w' : World} {g : Nat} {v : Value}
theorem SCell.cell (h : SCell T w g v) : w.cell? ⟨g, 0, none⟩ = some v := by rw [cell_of_row w g _ _ _ _ h]; rfl
theorem SCell.thaw (h : SCell T w g v) : w.frozen? ⟨g, 0, none⟩ = false := frozen_of_row w g 0 _ _ h
theorem SCell.lt (h : SCell T w g v) : g < w.heap.size := (Array.getElem?_eq_some_iff.1 h).1
theorem SCell.below (h : SCell T w g v) (hb : Below w.heap.size w w') : SCell T w' g v := by unfold SCell; rw [hb.block _ h.lt]; exact h
theorem SCell.new (w : World) {k : Nat} (hk : w.heap.size = k) : SCell T (w.alloc (.cells #[v] T)) k v := by subst hk; exact heap_alloc_new w _
theorem SCell.step (h : SCell T w g v) (o : Obj) : SCell T (w.alloc o) g v := h.below ((Below.refl _ _).alloc (Nat.le_refl _) o)
theorem SCell.write (h : SCell T w g v) (u : Value) : SCell T (w.setCell ⟨g, 0, none⟩ u) g u := by
  unfold SCell
  rw [heap_setCell_same w g 0 _ _ u h]
  rfl
theorem below_drewN {B : Nat} {a w : World} (h : Below B a w) (q : Nat) : Below B a (w.drewN q) :=
  h.trans ⟨(drewN_same w q).1, (drewN_same w q).2.1, (drewN_same w q).2.2, by rw [heap_drewG]; exact Nat.le_refl _, fun k _ => by rw [heap_drewG]⟩
end
section
variable {α : Type}
def Rs (lt : α → α → Bool) (L : List α) : Prop := L.Pairwise fun x y => lt x y = true
variable {lt : α → α → Bool}
theorem lt_asym (O : Ord (leOf lt)) {x y : α} (h : lt x y = true) : lt y x = false := by
  rcases O.total x y with h1 | h1
  · simpa [leOf] using h1
  · exact (le_off h h1).elim
theorem Rs.srt (O : Ord (leOf lt)) {L : List α} (h : Rs lt L) : Srt (leOf lt) L := h.imp fun hxy => le_yes (lt_asym O hxy)
theorem has_pos (O : Ord (leOf lt)) {L : List α} (hR : Rs lt L) {x : α} {k : Nat} (hP : Pos lt L x k) (sm : α → α → Bool) (hsm : ∀ y x, sm y x = (!lt y x && !lt x y)) :
    L.any (fun y => sm y x) = match L[k]? with | some y => sm y x | none => false := by
  have h1 : (L.take k).any (fun y => sm y x) = false := by
    rw [List.any_eq_false]
    intro y hy
    obtain ⟨i, hi, e⟩ := List.mem_iff_getElem?.1 hy |>.imp fun i h => (⟨(by have := (List.getElem?_eq_some_iff.1 h).1; rw [List.length_take] at this; omega), h⟩ : i < k ∧ (L.take k)[i]? = some y)
    rw [List.getElem?_take_of_lt hi] at e
    rw [hsm, hP.lo i y hi e]
    simp
  have h2 : L.any (fun y => sm y x) = (L.drop k).any (fun y => sm y x) := by
    conv => lhs; rw [← List.take_append_drop k L]
    rw [List.any_append, h1, Bool.false_or]
  rw [h2]
  cases e : L[k]? with
  | none => rw [List.drop_of_length_le (by simpa using e)]; rfl
  | some y =>
    have hd := drop_cons e
    rw [hd, List.any_cons]
    have h3 : (L.drop (k + 1)).any (fun y => sm y x) = false := by
      rw [List.any_eq_false]
      intro z hz
      have hs : Rs lt (y :: L.drop (k + 1)) := by rw [← hd]; exact List.Pairwise.sublist (List.drop_sublist k L) hR
      have hyz := (List.pairwise_cons.1 hs).1 z hz
      have hyx := hP.hi k y (Nat.le_refl _) e
      rw [hsm]
      intro hc
      simp only [Bool.and_eq_true, Bool.not_eq_true'] at hc
      have := O.trans z x y (le_yes hc.2) (le_yes hyx)
      exact le_off hyz this
    rw [h3, Bool.or_false]
theorem cptF_rs (O : Ord (leOf lt)) {sm : α → α → Bool} (hsm : ∀ y x, sm y x = (!lt y x && !lt x y)) : ∀ (l : List α) (p : α), Srt (leOf lt) (p :: l) → Rs lt (cptF sm p l) ∧ ∀ z ∈ cptF sm p l, lt p z = true
  | [], p, _ => ⟨List.Pairwise.nil, by simp [cptF]⟩
  | x :: l, p, h => by
    have h' := List.pairwise_cons.1 h
    have hpx := h'.1 x (by simp)
    have ih := cptF_rs O hsm l x h'.2
    cases e : sm x p with
    | true =>
      rw [cptF_yes _ e]
      refine ⟨ih.1, fun z hz => ?_⟩
      have := ih.2 z hz
      rw [hsm] at e
      simp only [Bool.and_eq_true, Bool.not_eq_true'] at e
      cases e2 : lt p z with
      | true => rfl
      | false =>
        have h2 : leOf lt z x = true := O.trans z p x (le_yes e2) hpx
        exact (le_off this h2).elim
    | false =>
      rw [cptF_no _ e]
      have hlt : lt p x = true := by
        cases e2 : lt p x with
        | true => rfl
        | false =>
          rw [hsm, e2] at e
          simp only [Bool.not_false, Bool.and_true, Bool.not_eq_false'] at e
          exact (le_off e hpx).elim
      refine ⟨List.pairwise_cons.2 ⟨ih.2, ih.1⟩, fun z hz => ?_⟩
      rcases List.mem_cons.1 hz with rfl | hz
      · exact hlt
      · cases e2 : lt p z with
        | true => rfl
        | false =>
          have h2 : leOf lt z x = true := O.trans z p x (le_yes e2) hpx
          exact (le_off (ih.2 z hz) h2).elim
theorem cpt_rs (O : Ord (leOf lt)) {sm : α → α → Bool} (hsm : ∀ y x, sm y x = (!lt y x && !lt x y)) {l : List α} (h : Srt (leOf lt) l) : Rs lt (cpt sm l) := by
  cases l with
  | nil => exact List.Pairwise.nil
  | cons x l => exact List.pairwise_cons.2 ⟨(cptF_rs O hsm l x h).2, (cptF_rs O hsm l x h).1⟩
theorem mem_cptF {sm : α → α → Bool} : ∀ (l : List α) (p z : α), z ∈ cptF sm p l → z ∈ l
  | [], _, _, h => by simp [cptF] at h
  | x :: l, p, z, h => by
    cases e : sm x p with
    | true => rw [cptF_yes _ e] at h; exact List.mem_cons_of_mem _ (mem_cptF l x z h)
    | false =>
      rw [cptF_no _ e] at h
      rcases List.mem_cons.1 h with rfl | h
      · exact List.mem_cons_self ..
      · exact List.mem_cons_of_mem _ (mem_cptF l x z h)
theorem mem_cpt {sm : α → α → Bool} {l : List α} {z : α} (h : z ∈ cpt sm l) : z ∈ l := by
  cases l with
  | nil => simp [cpt] at h
  | cons x l =>
    rcases List.mem_cons.1 h with rfl | h
    · exact List.mem_cons_self ..
    · exact List.mem_cons_of_mem _ (mem_cptF l x z h)
theorem cptF_mem {sm : α → α → Bool} (hs : ∀ x y, sm x y = true → x = y) : ∀ (l : List α) (p z : α), z ∈ l → z = p ∨ z ∈ cptF sm p l
  | x :: l, p, z, h => by
    rcases List.mem_cons.1 h with rfl | h
    · cases e : sm z p with
      | true => exact .inl (hs _ _ e)
      | false => rw [cptF_no _ e]; exact .inr (List.mem_cons_self ..)
    · cases e : sm x p with
      | true =>
        rw [cptF_yes _ e]
        rcases cptF_mem hs l x z h with rfl | h
        · exact .inl (hs _ _ e)
        · exact .inr h
      | false =>
        rw [cptF_no _ e]
        rcases cptF_mem hs l x z h with rfl | h
        · exact .inr (List.mem_cons_self ..)
        · exact .inr (List.mem_cons_of_mem _ h)
theorem cpt_mem {sm : α → α → Bool} (hs : ∀ x y, sm x y = true → x = y) {l : List α} {z : α} (h : z ∈ l) : z ∈ cpt sm l := by
  cases l with
  | nil => simp at h
  | cons x l =>
    rcases List.mem_cons.1 h with rfl | h
    · exact List.mem_cons_self ..
    · rcases cptF_mem hs l x z h with rfl | h
      · exact List.mem_cons_self ..
      · exact List.mem_cons_of_mem _ h
theorem len_cptF {sm : α → α → Bool} : ∀ (l : List α) (p : α), (cptF sm p l).length ≤ l.length
  | [], _ => Nat.le_refl _
  | x :: l, p => by
    cases e : sm x p with
    | true => rw [cptF_yes _ e]; exact Nat.le_succ_of_le (len_cptF l x)
    | false => rw [cptF_no _ e]; exact Nat.succ_le_succ (len_cptF l x)
theorem len_cpt {sm : α → α → Bool} (l : List α) : (cpt sm l).length ≤ l.length := by
  cases l with
  | nil => exact Nat.le_refl _
  | cons x l => exact Nat.succ_le_succ (len_cptF l x)
end
end Go.Proofs.Ytjlmignafhhjhaa
