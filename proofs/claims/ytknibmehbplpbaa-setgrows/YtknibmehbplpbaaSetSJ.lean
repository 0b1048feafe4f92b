/-
  Proved here: With and Without of sets of ints, by their rising lists; what the document's Some says.
-/
import Derived.Test.YtknibmehbplpbaaSetS
namespace Go.Proofs.Ytknibmehbplpbaa
open Go.Shelf Go.RowKit Go.Lib Go.Sort
theorem with_list {L : List Int} (h : Rise L) {x : Int} {k : Nat} (hP : Pos (ltOf cfI) L x k) : (if hasI L x then L else L.take k ++ x :: L.drop k) = insR x L := by
  have hlo : ∀ z ∈ L.take k, z < x := fun z hz => by
    obtain ⟨i, hi⟩ := List.mem_iff_getElem?.1 hz
    have hi2 : i < k := by have := (List.getElem?_eq_some_iff.1 hi).1; rw [List.length_take] at this; omega
    rw [List.getElem?_take_of_lt hi2] at hi
    have := hP.lo i z hi2 hi
    rw [ltI] at this
    exact of_decide_eq_true this
  have hhi : ∀ z ∈ L.drop k, x ≤ z := fun z hz => by
    obtain ⟨i, hi⟩ := List.mem_iff_getElem?.1 hz
    rw [List.getElem?_drop] at hi
    have := hP.hi (k + i) z (by omega) hi
    rw [ltI] at this
    have := of_decide_eq_false this
    omega
  by_cases hx : x ∈ L
  · rw [if_pos (by rw [hasI_mem]; exact decide_eq_true hx)]
    refine rise_ext h (rise_insR x h) fun z => ?_
    rw [mem_insR]
    exact ⟨Or.inr, fun hz => hz.elim (fun e => e ▸ hx) id⟩
  · rw [if_neg (by rw [hasI_mem]; simpa using hx)]
    refine rise_ext ?_ (rise_insR x h) fun z => ?_
    · refine List.pairwise_append.2 ⟨List.Pairwise.sublist (List.take_sublist _ _) h, List.pairwise_cons.2 ⟨fun z hz => ?_, List.Pairwise.sublist (List.drop_sublist _ _) h⟩, fun a ha b hb => ?_⟩
      · have h1 := hhi z hz
        have h2 : z ≠ x := fun e => hx (e ▸ List.mem_of_mem_drop hz)
        omega
      · have h1 := hlo a ha
        rcases List.mem_cons.1 hb with rfl | hb
        · exact h1
        · have := hhi b hb; omega
    · rw [mem_insR]
      conv => rhs; rw [← List.take_append_drop k L]
      simp only [List.mem_append, List.mem_cons]
      by_cases a : z ∈ L.take k <;> by_cases b : z = x <;> by_cases c : z ∈ L.drop k <;> simp [a, b, c]
theorem without_list {L : List Int} (h : Rise L) {x : Int} {k : Nat} (hP : Pos (ltOf cfI) L x k) : (if hasI L x then L.take k ++ L.drop (k + 1) else L) = L.filter fun z => decide (z ∈ [x]) == false := by
  by_cases hx : x ∈ L
  · have hh : hasI L x = true := by rw [hasI_mem]; exact decide_eq_true hx
    rw [if_pos hh]
    have hk : L[k]? = some x := by
      have h1 := fndI_has (rs_rise.2 h) hP
      rw [hh] at h1
      unfold fndI at h1
      cases e2 : L[k]? with
      | none => rw [e2] at h1; exact absurd h1 (by simp)
      | some y => rw [e2] at h1; rw [smI_eq y x h1]
    have hL : L = L.take k ++ x :: L.drop (k + 1) := by rw [← drop_cons hk, List.take_append_drop]
    have hR := h
    rw [hL] at hR
    have hp := List.pairwise_append.1 hR
    have hc := List.pairwise_cons.1 hp.2.1
    have e1 : (L.take k).filter (fun z => decide (z ∈ [x]) == false) = L.take k := List.filter_eq_self.2 fun z hz => by
      have := hp.2.2 z hz x (List.mem_cons_self ..)
      simp
      omega
    have e2 : (L.drop (k + 1)).filter (fun z => decide (z ∈ [x]) == false) = L.drop (k + 1) := List.filter_eq_self.2 fun z hz => by
      have := hc.1 z hz
      simp
      omega
    conv => rhs; rw [hL]
    rw [List.filter_append, e1, List.filter_cons_of_neg (by simp), e2]
  · rw [if_neg (by rw [hasI_mem]; simpa using hx)]
    exact (List.filter_eq_self.2 fun z hz => by
      have : z ≠ x := fun e => hx (e ▸ hz)
      simp [this]).symm
theorem siWith {w : World} {v : Value} {L : List Int} {k : Nat} (h1 : SI w v L k) (x : Int) (hk : k ≤ 100000) : Calls Try.prog 8 #[.agg #[v], .int .i64 x] w fun e w' => SE w (insR x L) (k + 1) e w' :=
  (setWithI v L x w h1.rg (rs_rise.2 h1.rise) (by have := h1.len; omega)).mono fun _ _ ⟨u, j, h2, hP, hr, hb⟩ => by
    rw [with_list h1.rise hP] at hr
    obtain ⟨ao, cap, rfl⟩ := hr.sl
    exact ⟨ao, _, cap, h2, ⟨hr, rise_insR x h1.rise, by have := len_insR_le x L; have := h1.len; omega⟩, hb⟩
theorem siWithout {w : World} {v : Value} {L : List Int} {k : Nat} (h1 : SI w v L k) (x : Int) (hk : k ≤ 100000) : Calls Try.prog 10 #[.agg #[v], .int .i64 x] w fun e w' => SE w (L.filter fun z => decide (z ∈ [x]) == false) k e w' :=
  (setWithoutI v L x w h1.rg (rs_rise.2 h1.rise) (by have := h1.len; omega)).mono fun _ _ ⟨u, j, h2, hP, hr, hb⟩ => by
    rw [without_list h1.rise hP] at hr
    obtain ⟨ao, cap, rfl⟩ := hr.sl
    exact ⟨ao, _, cap, h2, ⟨hr, List.Pairwise.filter _ h1.rise, Nat.le_trans (List.length_filter_le _ _) h1.len⟩, hb⟩
theorem siList {w : World} {v : Value} {L : List Int} {k : Nat} (h1 : SI w v L k) (hk : k ≤ 100000) : Calls Try.prog 13 #[.agg #[v]] w fun e w' => RE w L e w' := setListI v L w h1.rg (by have := h1.len; omega)
theorem rHas_b {w : World} {v : Value} {L : List Int} (h : RG (Value.int .i64) w v L) (x : Int) (b : Bool) (hb : decide (x ∈ L) = b) : Calls Try.prog 42 #[v, .int .i64 x] w fun e w' => e = .returned (.bool b) ∧ Below w.heap.size w w' := by
  have := rHas v L x w h
  rw [hb] at this
  exact this.mono fun _ _ ⟨h1, h2⟩ => ⟨h1, by rw [h2]; exact Below.refl _ _⟩
theorem some_true (L M : List Int) : (L.filter fun z => decide (z ∈ M) == true) = meetR L M := by unfold meetR; congr 1; funext z; simp
theorem some_false (L M : List Int) : (L.filter fun z => decide (z ∈ M) == false) = minusR L M := by unfold minusR; congr 1; funext z; cases decide (z ∈ M) <;> rfl
theorem ints_yes {w : World} {v u : Value} {L M : List Int} (h1 : RG (Value.int .i64) w v L) (h2 : RG (Value.int .i64) w u M) (h : L = M) : Calls Try.prog 12 #[v, u] w fun e w' => e = .returned (.bool true) ∧ Below w.heap.size w w' := by
  have := ints_below v u L M w h1 h2
  rw [decide_eq_true h] at this
  exact this
theorem len_filt (L : List Int) (p : Int → Bool) {k : Nat} (h : L.length ≤ k) : (L.filter p).length ≤ k := Nat.le_trans (List.length_filter_le _ _) h
theorem siOfO {w : World} {v : Value} {L : List Int} (hv : RG (Value.int .i64) w v L) {k : Nat} (hk : L.length ≤ k) (hk2 : k ≤ 100000) : Calls Try.prog 6 #[v] w fun e w' => ∃ ao n cap, e = .returned (.agg #[.slice ao n cap]) ∧ SI w' (.slice ao n cap) (ofR L) k ∧ (∀ b, (Value.slice ao n cap).ownBlock = some b → w.heap.size ≤ b) ∧ Below w.heap.size w w' :=
  (setOfI v L w hv (by omega)).mono fun _ _ ⟨u, h1, h2, h3⟩ => by
    obtain ⟨ao, cap, rfl, -⟩ := h2.sl
    exact ⟨ao, _, cap, h1, ⟨by have := h2.rg; rwa [ofI_eq L] at this ⊢, rise_ofR L, by rw [← ofI_eq]; have := ofI_len L; omega⟩, fun b hb => (h2.lt b hb).1, h3⟩
theorem lgI_take (L : List Int) (i n : Nat) (h : L.length = n) : (lgI L i).take n = L := by subst h; simp [lgI]
/-- rows and sets that lie elsewhere stay -/
theorem RG.stay {w w' : World} {u v : Value} {L : List Int} (h : RG (Value.int .i64) w u L) (hg : w.grownBy w' v.ownBlock) (hne : 0 < L.length → ∀ b g, u.ownBlock = some b → v.ownBlock = some g → b ≠ g) : RG (Value.int .i64) w' u L :=
  h.kept hg fun g e h0 b hb => hne h0 b g hb e
theorem SI.stay {w w' : World} {u v : Value} {L : List Int} {k : Nat} (h : SI w u L k) (hg : w.grownBy w' v.ownBlock) (hne : 0 < L.length → ∀ b g, u.ownBlock = some b → v.ownBlock = some g → b ≠ g) : SI w' u L k := ⟨h.rg.stay hg hne, h.rise, h.len⟩
theorem OG.stay {B e : Nat} {w w' : World} {u v : Value} {L : List Int} (h : OG (Value.int .i64) B e w u L) (hg : w.grownBy w' v.ownBlock) (hne : ∀ b g, u.ownBlock = some b → v.ownBlock = some g → b ≠ g) : OG (Value.int .i64) B e w' u L :=
  h.of_blocks fun b hb => hg.block b (h.lt b hb).2 fun e => hne b b hb e.symm rfl
theorem SCell.stay {T : TypeId} {w w' : World} {b : Nat} {x v : Value} (h : SCell T w b x) (hg : w.grownBy w' v.ownBlock) (hne : ∀ g, v.ownBlock = some g → b ≠ g) : SCell T w' b x := by
  unfold SCell
  rw [hg.block b h.lt fun e => hne b e.symm rfl]
  exact h
theorem below_row {B : Nat} {w0 w w' : World} {v : Value} (hb : Below B w0 w) (hB : B ≤ w.heap.size) (hg : w.grownBy w' v.ownBlock) (hv : ∀ g, v.ownBlock = some g → B ≤ g) : Below B w0 w' := hb.trans ((Below.refl B w).grown hg hB hv)
end Go.Proofs.Ytknibmehbplpbaa
