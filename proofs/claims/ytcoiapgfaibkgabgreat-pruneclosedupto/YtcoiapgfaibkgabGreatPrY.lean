/-
  Proved here: plain mathematics of layer 17's law on what is closed: which points are kept.
-/
import Derived.Test.YtcoiapgfaibkgabGreatPrXAll
import Derived.Test.YtcoiapgfaibkgabGreatMoM
namespace Go.Proofs.YtcoiapgfaibkgabGreat
set_option linter.unusedVariables false
open Go.RowKit Go.Shelf Go.Sort Go.Lib
theorem rch_app {P : List (List Int)} {a G : List Int} {x : Int} (h : RchP P a x) : RchP P (a ++ G) x := by
  obtain ⟨g, hg, k, hr⟩ := h
  exact ⟨g, List.mem_append_left _ hg, k, hr⟩
theorem tabM_above {P : List (List Int)} {a G : List Int} {x : Int} (h : TabM P a G x) : RchP P (a ++ G) x := by
  obtain ⟨A, hA, ht⟩ := h
  exact tab_above hA ht
theorem kp_nb {P : List (List Int)} {n : Nat} {a G : List Int} {b p : Bool} {x : Int} (hbp : b = true ∨ p = true) (h : KpP P n a G b p x) : RchP P (a ++ G) x := by
  obtain ⟨k, rfl, hk, h1, h2⟩ := h
  rcases hbp with e | e
  · exact h1 e
  · exact tabM_above (h2 e)
theorem kp_up {P : List (List Int)} {a G : List Int} {b p : Bool} {k : Nat} {x : Int} (h0 : ckE P = 0) (h : KpP P P.length a G b p (k : Int)) (hx : x ∈ P.getD k []) (hg : x ∉ G) : KpP P P.length a G b p x := by
  obtain ⟨k', e, hk, h1, h2⟩ := h
  obtain ⟨q, rfl, hq⟩ := outs_no (cl_zero (ck_zero h0)).1 k x hx
  refine ⟨q, rfl, hq, fun e => rch_up k _ (h1 e) hx, fun e => ?_⟩
  obtain ⟨A, hA, ht⟩ := h2 e
  exact ⟨A, hA, tab_up ht hx hg⟩
theorem kp_as {P : List (List Int)} {a G : List Int} {b p : Bool} {x : Int} (h0 : ckE P = 0) (ha : noPts (P.length : Int) a = false) (hG : noPts (P.length : Int) G = false) (hx : x ∈ a) (hg : x ∉ G) : KpP P P.length a G b p x := by
  obtain ⟨q, rfl, hq⟩ := noPts_pt ha x hx
  refine ⟨q, rfl, hq, fun _ => ⟨_, List.mem_append_left _ hx, 0, rfl⟩, fun _ => ?_⟩
  obtain ⟨A, hA⟩ := abv_ex (outs_no (cl_zero (ck_zero h0)).1) hG
  exact ⟨A, hA, tab_asked hx hg⟩
theorem rise_part {n : Nat} {R L : List Int} (hR : Rise R) (hL : Rise L) (h : ∀ x, x ∈ R → ∃ k : Nat, x = (k : Int) ∧ k < n) (h2 : ∀ x, x ∈ L ↔ ∃ k : Nat, x = (k : Int) ∧ k < n ∧ x ∉ R) : R.length + L.length = n := by
  have e1 : R = ((List.range n).filter fun k : Nat => decide ((k : Int) ∈ R)).map Int.ofNat := rise_ext hR (List.pairwise_map.2 (List.Pairwise.filter _ ((List.pairwise_lt_range).imp fun h => Int.ofNat_lt.2 h))) fun x => by
    rw [List.mem_map]
    constructor
    · intro hx
      obtain ⟨k, rfl, hk⟩ := h x hx
      exact ⟨k, List.mem_filter.2 ⟨List.mem_range.2 hk, decide_eq_true hx⟩, rfl⟩
    · rintro ⟨k, hk, rfl⟩
      exact of_decide_eq_true (List.mem_filter.1 hk).2
  have e2 : L = ((List.range n).filter fun k : Nat => !decide ((k : Int) ∈ R)).map Int.ofNat := rise_ext hL (List.pairwise_map.2 (List.Pairwise.filter _ ((List.pairwise_lt_range).imp fun h => Int.ofNat_lt.2 h))) fun x => by
    rw [List.mem_map, h2 x]
    constructor
    · rintro ⟨k, rfl, hk, hx⟩
      exact ⟨k, List.mem_filter.2 ⟨List.mem_range.2 hk, by simp [hx]⟩, rfl⟩
    · rintro ⟨k, hk, rfl⟩
      have h3 := List.mem_filter.1 hk
      exact ⟨k, rfl, List.mem_range.1 h3.1, by simpa using h3.2⟩
  have l1 : R.length = ((List.range n).filter fun k : Nat => decide ((k : Int) ∈ R)).length := by
    have := congrArg List.length e1
    rwa [List.length_map] at this
  have l2 : L.length = ((List.range n).filter fun k : Nat => !decide ((k : Int) ∈ R)).length := by
    have := congrArg List.length e2
    rwa [List.length_map] at this
  have h5 : ∀ (M : List Nat) (p : Nat → Bool), (M.filter p).length + (M.filter fun k => !p k).length = M.length := fun M p => by
    induction M with
    | nil => rfl
    | cons x M ih =>
      rw [List.filter_cons, List.filter_cons]
      cases p x <;> simp <;> omega
  have h6 := h5 (List.range n) fun k : Nat => decide ((k : Int) ∈ R)
  rw [List.length_range] at h6
  omega
theorem rise_all {n : Nat} {L : List Int} (hL : Rise L) (h : ∀ x, x ∈ L ↔ ∃ k : Nat, x = (k : Int) ∧ k < n) : L.length = n := by
  have h1 := rise_part (n := n) (R := []) List.Pairwise.nil hL (fun x hx => by simp at hx) (fun x => by rw [h x]; simp)
  simpa using h1
/-- What is kept in one of the ways that leave out: what the law asks of it. -/
structure ClP (P : List (List Int)) (n : Nat) (a G L0 : List Int) (m : Nat) (L : List Int) : Prop where
  rise : Rise L
  pt : ∀ x ∈ L, ∃ k : Nat, x = (k : Int) ∧ k < n
  nb : ∀ x ∈ L, x ∉ L0
  up : ∀ (k : Nat) (x : Int), (k : Int) ∈ L → x ∈ P.getD k [] → x ∉ G → x ∈ L
  asd : ∀ x ∈ a, x ∉ G → x ∈ L
  one : m = 1 → ∀ v : Nat, v < n → ((v : Int) ∈ L ↔ ¬ (v : Int) ∈ L0)
theorem ClP.of {P : List (List Int)} {n : Nat} {a G L0 L : List Int} {m : Nat} {b p : Bool} (hn : P.length = n) (h0 : nsE P n (a ++ G) = 0) (hbp : b = true ∨ p = true) (hm : m = 1 → b = true ∧ p = false) (hL0 : ∀ x, x ∈ L0 ↔ BaP P n a G x) (hL : Rise L ∧ ∀ x, x ∈ L ↔ KpP P n a G b p x) : ClP P n a G L0 m L := by
  subst hn
  obtain ⟨hck, hna, hng⟩ := ns_both h0
  refine ⟨hL.1, fun x hx => ?_, fun x hx h1 => ?_, fun k x hk hx hg => ?_, fun x hx hg => ?_, fun e v hv => ?_⟩
  · obtain ⟨k, e, hk, -⟩ := (hL.2 x).1 hx
    exact ⟨k, e, hk⟩
  · obtain ⟨k, e, hk, h2⟩ := (hL0 x).1 h1
    exact h2 (kp_nb hbp ((hL.2 x).1 hx))
  · exact (hL.2 x).2 (kp_up hck ((hL.2 _).1 hk) hx hg)
  · exact (hL.2 x).2 (kp_as hck hna hng hx hg)
  · obtain ⟨rfl, rfl⟩ := hm e
    rw [hL.2, hL0]
    unfold KpP BaP
    constructor
    · rintro ⟨k, e1, hk, h1, -⟩ ⟨_, _, _, h2⟩
      exact h2 (h1 rfl)
    · intro h1
      exact ⟨v, rfl, hv, fun _ => Classical.byContradiction fun h2 => h1 ⟨v, rfl, hv, h2⟩, fun h => by simp at h⟩
end Go.Proofs.YtcoiapgfaibkgabGreat
