/-
  Proved here: sets of ints by their rising lists: what each call of package set makes of them.
-/
import Derived.Test.YtjlmignafhhjhaaSetGIAll
import Derived.Test.YtjlmignafhhjhaaSetJI
namespace Go.Proofs.Ytjlmignafhhjhaa
open Go.Shelf Go.RowKit Go.Lib Go.Sort
/-- a set of ints: a rising list that can be read, of at most k things -/
structure SI (w : World) (v : Value) (T : List Int) (k : Nat) : Prop where
  rg : RG (Value.int .i64) w v T
  rise : Rise T
  len : T.length ≤ k
theorem SI.below {w w' : World} {v : Value} {T : List Int} {k : Nat} (h : SI w v T k) (hb : Below w.heap.size w w') : SI w' v T k := ⟨h.rg.below (Nat.le_refl _) hb, h.rise, h.len⟩
/-- a set that was made -/
def SE (w : World) (T : List Int) (k : Nat) (e : Ending) (w' : World) : Prop := ∃ ao n cap, e = .returned (.agg #[.slice ao n cap]) ∧ SI w' (.slice ao n cap) T k ∧ Below w.heap.size w w'
theorem jn_mem : ∀ (s r : List Int), Rise r → ∀ z, z ∈ joinI s r ↔ z ∈ s ∨ z ∈ r
  | [], r, _, z => by simp [joinI, jn]
  | x :: s, r, h, z => by
    have hP : ∃ k, Pos (ltOf cfI) r x k := pos_ex r x h
    obtain ⟨k, hP⟩ := hP
    have hk := pF_pos hP
    have h1 : joinI (x :: s) r = r.take k ++ x :: joinI s (if fndI r x k then r.drop (k + 1) else r.drop k) := by unfold joinI; rw [jn, ← hk]
    rw [h1]
    cases e : fndI r x k with
    | true =>
      have ih := jn_mem s (r.drop (k + 1)) (List.Pairwise.sublist (List.drop_sublist _ _) h) z
      have hx : r[k]? = some x := by
        unfold fndI at e
        cases e2 : r[k]? with
        | none => rw [e2] at e; exact absurd e (by simp)
        | some y => rw [e2] at e; rw [smI_eq y x e]
      have hr : r = r.take k ++ x :: r.drop (k + 1) := by rw [← drop_cons hx, List.take_append_drop]
      simp only [if_true, List.mem_append, List.mem_cons, ih]
      conv => rhs; rw [hr]
      simp only [List.mem_append, List.mem_cons]
      by_cases a : z ∈ r.take k <;> by_cases b : z = x <;> by_cases c : z ∈ s <;> by_cases d : z ∈ r.drop (k + 1) <;> simp [a, b, c, d]
    | false =>
      have ih := jn_mem s (r.drop k) (List.Pairwise.sublist (List.drop_sublist _ _) h) z
      have hr : r = r.take k ++ r.drop k := (List.take_append_drop k r).symm
      simp only [Bool.false_eq_true, if_false, List.mem_append, List.mem_cons, ih]
      conv => rhs; rw [hr]
      simp only [List.mem_append]
      by_cases a : z ∈ r.take k <;> by_cases b : z = x <;> by_cases c : z ∈ s <;> by_cases d : z ∈ r.drop k <;> simp [a, b, c, d]
where
  pos_ex (r : List Int) (x : Int) (h : Rise r) : ∃ k, Pos (ltOf cfI) r x k := by
    induction r with
    | nil => exact ⟨0, Nat.le_refl _, fun t y ht => absurd ht (Nat.not_lt_zero _), fun t y _ hy => by simp at hy⟩
    | cons y r ih =>
      by_cases hyx : y < x
      · obtain ⟨k, hk⟩ := ih h.tail
        refine ⟨k + 1, by have := hk.le; simpa using this, fun t z ht hz => ?_, fun t z ht hz => ?_⟩
        · cases t with
          | zero => cases hz; rw [ltI]; exact decide_eq_true hyx
          | succ t => exact hk.lo t z (by omega) (by simpa using hz)
        · cases t with
          | zero => omega
          | succ t => exact hk.hi t z (by omega) (by simpa using hz)
      · refine ⟨0, Nat.zero_le _, fun t z ht => absurd ht (Nat.not_lt_zero _), fun t z _ hz => ?_⟩
        rw [ltI]
        refine decide_eq_false ?_
        cases t with
        | zero => cases hz; exact hyx
        | succ t =>
          have := h.head z (List.mem_of_getElem? (by simpa using hz))
          omega
theorem jn_rise : ∀ (s r : List Int), Rise s → Rise r → Rise (joinI s r)
  | [], r, _, h => by simpa [joinI, jn] using h
  | x :: s, r, hs, h => by
    obtain ⟨k, hP⟩ := jn_mem.pos_ex r x h
    have hk := pF_pos hP
    have h1 : joinI (x :: s) r = r.take k ++ x :: joinI s (if fndI r x k then r.drop (k + 1) else r.drop k) := by unfold joinI; rw [jn, ← hk]
    rw [h1]
    have hlo : ∀ z ∈ r.take k, z < x := fun z hz => by
      obtain ⟨i, hi⟩ := List.mem_iff_getElem?.1 hz
      have hi2 : i < k := by have := (List.getElem?_eq_some_iff.1 hi).1; rw [List.length_take] at this; omega
      rw [List.getElem?_take_of_lt hi2] at hi
      have := hP.lo i z hi2 hi
      rw [ltI] at this
      exact of_decide_eq_true this
    have hhi : ∀ z ∈ (if fndI r x k then r.drop (k + 1) else r.drop k), x < z := fun z hz => by
      cases e : fndI r x k with
      | true =>
        rw [e] at hz
        simp only [if_true] at hz
        obtain ⟨i, hi⟩ := List.mem_iff_getElem?.1 hz
        rw [List.getElem?_drop] at hi
        have hx : r[k]? = some x := by
          unfold fndI at e
          cases e2 : r[k]? with
          | none => rw [e2] at e; exact absurd e (by simp)
          | some y => rw [e2] at e; rw [smI_eq y x e]
        obtain ⟨h1, e1⟩ := List.getElem?_eq_some_iff.1 hx
        obtain ⟨h2, e2⟩ := List.getElem?_eq_some_iff.1 hi
        have := (List.pairwise_iff_getElem.1 h) k (k + 1 + i) h1 h2 (by omega)
        rw [e1, e2] at this
        exact this
      | false =>
        rw [e] at hz
        simp only [Bool.false_eq_true, if_false] at hz
        obtain ⟨i, hi⟩ := List.mem_iff_getElem?.1 hz
        rw [List.getElem?_drop] at hi
        have h3 := hP.hi (k + i) z (by omega) hi
        rw [ltI] at h3
        have h3 := of_decide_eq_false h3
        have hne : z ≠ x := by
          rintro rfl
          by_cases hi0 : i = 0
          · subst hi0
            have hz2 : r[k]? = some z := by simpa using hi
            rw [fndI_at hz2] at e
            unfold smI at e
            rw [cfI_zero] at e
            simp at e
          · obtain ⟨h2, e2⟩ := List.getElem?_eq_some_iff.1 hi
            have hkl : k < r.length := by omega
            have h4 := hP.hi k r[k] (Nat.le_refl _) (List.getElem?_eq_getElem hkl)
            rw [ltI] at h4
            have h4 := of_decide_eq_false h4
            have := (List.pairwise_iff_getElem.1 h) k (k + i) hkl h2 (by omega)
            rw [e2] at this
            omega
        omega
    have hR : Rise (if fndI r x k then r.drop (k + 1) else r.drop k) := by
      split
      · exact List.Pairwise.sublist (List.drop_sublist _ _) h
      · exact List.Pairwise.sublist (List.drop_sublist _ _) h
    have ih := jn_rise s _ hs.tail hR
    have hmem := jn_mem s _ hR
    refine List.pairwise_append.2 ⟨List.Pairwise.sublist (List.take_sublist _ _) h, List.pairwise_cons.2 ⟨fun z hz => ?_, ih⟩, fun a ha b hb => ?_⟩
    · rcases (hmem z).1 hz with hz | hz
      · exact hs.head z hz
      · exact hhi z hz
    · have hax := hlo a ha
      rcases List.mem_cons.1 hb with rfl | hb
      · exact hax
      · rcases (hmem b).1 hb with hb | hb
        · have := hs.head b hb; omega
        · have := hhi b hb; omega
theorem joinI_eq {s r : List Int} (hs : Rise s) (hr : Rise r) : joinI s r = joinR s r := rise_ext (jn_rise s r hs hr) (rise_joinR r hs) fun z => by rw [jn_mem s r hr, mem_joinR]
theorem siMade {w w' : World} {T : List Int} {k : Nat} {e : Ending} (hr : Rise T) (hk : T.length ≤ k) (h : MkEI w T e w') : SE w T k e w' := by
  obtain ⟨u, rfl, ho, hb⟩ := h
  obtain ⟨ao, cap, rfl, -⟩ := ho.sl
  exact ⟨ao, _, cap, rfl, ⟨ho.rg, hr, hk⟩, hb⟩
theorem siJoin {w : World} {v u : Value} {L M : List Int} {k j : Nat} (h1 : SI w v L k) (h2 : SI w u M j) (hk : k ≤ 100000) (hj : j ≤ 100000) : Calls Try.prog 64 #[.agg #[v], .agg #[u]] w fun e w' => SE w (joinR L M) (k + j) e w' :=
  (setJoinI v u L M w h1.rg h2.rg (rs_rise.2 h2.rise) (by have := h1.len; omega) (by have := h2.len; omega)).mono fun _ _ h => by
    rw [joinI_eq h1.rise h2.rise] at h
    refine siMade (rise_joinR M h1.rise) ?_ h
    rw [← joinI_eq h1.rise h2.rise]
    have := joinI_len L M
    have := h1.len
    have := h2.len
    omega
end Go.Proofs.Ytjlmignafhhjhaa
