/-
  Proved here: With and Without of sets of ints, by their rising lists; what the document's Some says.
-/
import Derived.Test.YtknibmehbplpbaaSetS
namespace Go.Proofs.Ytknibmehbplpbaa
open Go.Shelf Go.RowKit Go.Lib Go.Sort
theorem with_list {L : List Int} (h : Rise L) {x : Int} {k : Nat} (hP : Pos (ltOf cfI) L x k) : (if hasI L x then L else L.take k ++ x :: L.drop k) = insR x L := by
  have hlo : ∀ z ∈ L.take k, z < x := fun z hz => by
    obtain ⟨i, hi⟩ := List.mem_iff_getElem?.1 hz
    have hi2 : i < k := by have := (List.getElem?_eq_some_iff.1 hi).1; rw [List.length_take] at this; omega
    rw [List.getElem?_take_of_lt hi2] at hi
    have := hP.lo i z hi2 hi
    rw [ltI] at this
    exact of_decide_eq_true this
  have hhi : ∀ z ∈ L.drop k, x ≤ z := fun z hz => by
    obtain ⟨i, hi⟩ := List.mem_iff_getElem?.1 hz
    rw [List.getElem?_drop] at hi
    have := hP.hi (k + i) z (by omega) hi
    rw [ltI] at this
    have := of_decide_eq_false this
    omega
  by_cases hx : x ∈ L
  · rw [if_pos (by rw [hasI_mem]; exact decide_eq_true hx)]
    refine rise_ext h (rise_insR x h) fun z => ?_
    rw [mem_insR]
    exact ⟨Or.inr, fun hz => hz.elim (fun e => e ▸ hx) id⟩
  · rw [if_neg (by rw [hasI_mem]; simpa using hx)]
    refine rise_ext ?_ (rise_insR x h) fun z => ?_
    · refine List.pairwise_append.2 ⟨List.Pairwise.sublist (List.take_sublist _ _) h, List.pairwise_cons.2 ⟨fun z hz => ?_, List.Pairwise.sublist (List.drop_sublist _ _) h⟩, fun a ha b hb => ?_⟩
      · have h1 := hhi z hz
        have h2 : z ≠ x := fun e => hx (e ▸ List.mem_of_mem_drop hz)
        omega
      · have h1 := hlo a ha
        rcases List.mem_cons.1 hb with rfl | hb
        · exact h1
        · have := hhi b hb; omega
    · rw [mem_insR]
      conv => rhs; rw [← List.take_append_drop k L]
      simp only [List.mem_append, List.mem_cons]
      by_cases a : z ∈ L.take k <;> by_cases b : z = x <;> by_cases c : z ∈ L.drop k <;> simp [a, b, c]
theorem without_list {L : List Int} (h : Rise L) {x : Int} {k : Nat} (hP : Pos (ltOf cfI) L x k) : (if hasI L x then L.take k ++ L.drop (k + 1) else L) = L.filter fun z => decide (z ∈ [x]) == false := by
  by_cases hx : x ∈ L
  · have hh : hasI L x = true := by rw [hasI_mem]; exact decide_eq_true hx
    rw [if_pos hh]
    have hk : L[k]? = some x := by
      have h1 := fndI_has (rs_rise.2 h) hP
      rw [hh] at h1
      unfold fndI at h1
      cases e2 : L[k]? with
      | none => rw [e2] at h1; exact absurd h1 (by simp)
      | some y => rw [e2] at h1; rw [smI_eq y x h1]
    have hL : L = L.take k ++ x :: L.drop (k + 1) := by rw [← drop_cons hk, List.take_append_drop]
    have hR := h
    rw [hL] at hR
    have hp := List.pairwise_append.1 hR
    have hc := List.pairwise_cons.1 hp.2.1
    have e1 : (L.take k).filter (fun z => decide (z ∈ [x]) == false) = L.take k := List.filter_eq_self.2 fun z hz => by
      have := hp.2.2 z hz x (List.mem_cons_self ..)
      simp
      omega
    have e2 : (L.drop (k + 1)).filter (fun z => decide (z ∈ [x]) == false) = L.drop (k + 1) := List.filter_eq_self.2 fun z hz => by
      have := hc.1 z hz
      simp
      omega
    conv => rhs; rw [hL]
    rw [List.filter_append, e1, List.filter_cons_of_neg (by simp), e2]
  · rw [if_neg (by rw [hasI_mem]; simpa using hx)]
    exact (List.filter_eq_self.2 fun z hz => by
      have : z ≠ x := fun e => hx (e ▸ hz)
      simp [this]).symm
theorem siWith {w : World} {v : Value} {L : List Int} {k : Nat} (h1 : SI w v L k) (x : Int) (hk : k ≤ 100000) : Calls Try.prog 8 #[.agg #[v], .int .i64 x] w fun e w' => SE w (insR x L) (k + 1) e w' :=
  (setWithI v L x w h1.rg (rs_rise.2 h1.rise) (by have := h1.len; omega)).mono fun _ _ ⟨u, j, h2, hP, hr, hb⟩ => by
    rw [with_list h1.rise hP] at hr
    obtain ⟨ao, cap, rfl⟩ := hr.sl
    exact ⟨ao, _, cap, h2, ⟨hr, rise_insR x h1.rise, by have := len_insR_le x L; have := h1.len; omega⟩, hb⟩
theorem siWithout {w : World} {v : Value} {L : List Int} {k : Nat} (h1 : SI w v L k) (x : Int) (hk : k ≤ 100000) : Calls Try.prog 10 #[.agg #[v], .int .i64 x] w fun e w' => SE w (L.filter fun z => decide (z ∈ [x]) == false) k e w' :=
  (setWithoutI v L x w h1.rg (rs_rise.2 h1.rise) (by have := h1.len; omega)).mono fun _ _ ⟨u, j, h2, hP, hr, hb⟩ => by
    rw [without_list h1.rise hP] at hr
    obtain ⟨ao, cap, rfl⟩ := hr.sl
    exact ⟨ao, _, cap, h2, ⟨hr, List.Pairwise.filter _ h1.rise, Nat.le_trans (List.length_filter_le _ _) h1.len⟩, hb⟩
theorem siList {w : World} {v : Value} {L : List Int} {k : Nat} (h1 : SI w v L k) (hk : k ≤ 100000) : Calls Try.prog 13 #[.agg #[v]] w fun e w' => RE w L e w' := setListI v L w h1.rg (by have := h1.len; omega)
theorem ints_yes {w : World} {v u : Value} {L M : List Int} (h1 : RG (Value.int .i64) w v L) (h2 : RG (Value.int .i64) w u M) (h : L = M) : Calls Try.prog 12 #[v, u] w fun e w' => e = .returned (.bool true) ∧ Below w.heap.size w w' := by
  have := ints_below v u L M w h1 h2
  rw [decide_eq_true h] at this
  exact this
end Go.Proofs.Ytknibmehbplpbaa
