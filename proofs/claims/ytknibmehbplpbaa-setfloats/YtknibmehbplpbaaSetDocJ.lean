/-
  Proved here: mathematics (no program): two rising lists put together are the first with each thing of the second put in; what is put in behind another list.
-/
import Derived.Test.YtknibmehbplpbaaSetDocM
namespace Go.Proofs.Ytknibmehbplpbaa
open Go.Shelf Go.RowKit Go.Lib Go.Sort
section
variable {α : Type} {lt : α → α → Bool}
def insA (lt : α → α → Bool) (S M : List α) : List α := M.foldl (fun s x => insD lt x s) S
theorem insA_cons (S : List α) (x : α) (M : List α) : insA lt S (x :: M) = insA lt (insD lt x S) M := rfl
theorem ofD_app (a b : List α) : ofD lt (a ++ b) = insA lt (ofD lt a) b := by unfold ofD insA; rw [List.foldl_append]
theorem le_lt (O : Ord (leOf lt)) {x y z : α} (h1 : lt x z = false) (h2 : lt x y = true) : lt z y = true := by
  cases e : lt z y with
  | true => rfl
  | false => exact (le_off h2 (O.trans y z x (le_yes e) (le_yes h1))).elim
theorem lt_le (O : Ord (leOf lt)) {x y z : α} (h1 : lt x y = true) (h2 : lt z y = false) : lt x z = true := by
  cases e : lt x z with
  | true => rfl
  | false => exact (le_off h1 (O.trans y z x (le_yes h2) (le_yes e))).elim
theorem lt_tr (O : Ord (leOf lt)) {x y z : α} (h1 : lt x y = true) (h2 : lt y z = true) : lt x z = true := le_lt O (lt_asym O h1) h2
theorem insD_comm (O : Ord (leOf lt)) {x y : α} (h : lt x y = true) : ∀ S : List α, insD lt x (insD lt y S) = insD lt y (insD lt x S)
  | [] => by
    have h1 := lt_asym O h
    show insD lt x [y] = insD lt y [x]
    rw [insD_gt h1 h, insD_lt h]; rfl
  | z :: S => by
    have h1 := lt_asym O h
    cases a : lt z x with
    | true =>
      have b := lt_tr O a h
      rw [insD_lt b, insD_lt a, insD_lt a, insD_lt b, insD_comm O h S]
    | false =>
      cases c : lt x z with
      | true =>
        rw [insD_gt a c, insD_lt h]
        cases d : lt z y with
        | true => rw [insD_lt d, insD_gt a c]
        | false =>
          cases e : lt y z with
          | true => rw [insD_gt d e, insD_gt h1 h]
          | false => rw [insD_eq d e, insD_gt a c]
      | false =>
        have d := le_lt O c h
        rw [insD_eq a c, insD_lt d, insD_eq a c]
theorem insA_comm (O : Ord (leOf lt)) {x : α} : ∀ (M S : List α), (∀ m ∈ M, lt x m = true) → insD lt x (insA lt S M) = insA lt (insD lt x S) M
  | [], S, _ => rfl
  | m :: M, S, h => by
    rw [insA_cons, insA_cons, insA_comm O M _ (fun z hz => h z (List.mem_cons_of_mem _ hz)), insD_comm O (h m (List.mem_cons_self ..))]
theorem mem_insD {x z : α} : ∀ {S : List α}, z ∈ S → z ∈ insD lt x S
  | y :: S, h => by
    unfold insD
    split
    · rcases List.mem_cons.1 h with rfl | h
      · exact List.mem_cons_self ..
      · exact List.mem_cons_of_mem _ (mem_insD h)
    · split
      · exact List.mem_cons_of_mem _ h
      · exact h
theorem mem_insA {z : α} : ∀ (M S : List α), z ∈ S → z ∈ insA lt S M
  | [], _, h => h
  | _ :: M, _, h => mem_insA M _ (mem_insD h)
theorem has_fix (O : Ord (leOf lt)) {x : α} : ∀ {T : List α}, Rs lt T → ∀ z, z ∈ T → lt z x = false → lt x z = false → insD lt x T = T
  | y :: T, h, z, hz, h1, h2 => by
    have h' := List.pairwise_cons.1 h
    rcases List.mem_cons.1 hz with rfl | hz
    · exact insD_eq h1 h2
    · have hyz := h'.1 z hz
      have hyx := lt_le O hyz h2
      rw [insD_lt hyx, has_fix O h'.2 z hz h1 h2]
theorem rs_insA (O : Ord (leOf lt)) : ∀ (M S : List α), Rs lt S → Rs lt (insA lt S M)
  | [], _, h => h
  | _ :: M, _, h => rs_insA O M _ (rs_ins O h).1
theorem mem_ins_self (O : Ord (leOf lt)) (x : α) : ∀ S : List α, ∃ z ∈ insD lt x S, lt z x = false ∧ lt x z = false
  | [] => by
    have : lt x x = false := by cases e : lt x x with | false => rfl | true => have := lt_asym O e; rw [e] at this; exact this
    exact ⟨x, List.mem_cons_self .., this, this⟩
  | y :: S => by
    have hxx : lt x x = false := by cases e : lt x x with | false => rfl | true => have := lt_asym O e; rw [e] at this; exact this
    cases a : lt y x with
    | true =>
      obtain ⟨z, hz, h⟩ := mem_ins_self O x S
      rw [insD_lt a]
      exact ⟨z, List.mem_cons_of_mem _ hz, h⟩
    | false =>
      cases b : lt x y with
      | true => rw [insD_gt a b]; exact ⟨x, List.mem_cons_self .., hxx, hxx⟩
      | false => rw [insD_eq a b]; exact ⟨y, List.mem_cons_self .., a, b⟩
theorem insA_ins (O : Ord (leOf lt)) (x : α) : ∀ (M S : List α), Rs lt M → Rs lt S → insA lt S (insD lt x M) = insD lt x (insA lt S M)
  | [], S, _, _ => rfl
  | y :: M, S, hM, hS => by
    have h' := List.pairwise_cons.1 hM
    cases a : lt y x with
    | true => rw [insD_lt a, insA_cons, insA_cons, insA_ins O x M _ h'.2 (rs_ins O hS).1]
    | false =>
      cases b : lt x y with
      | true =>
        rw [insD_gt a b, insA_cons]
        refine (insA_comm O (y :: M) S fun m hm => ?_).symm
        rcases List.mem_cons.1 hm with rfl | hm
        · exact b
        · exact lt_tr O b (h'.1 m hm)
      | false =>
        rw [insD_eq a b]
        obtain ⟨z, hz, h1, h2⟩ := mem_ins_self O y S
        refine (has_fix O (rs_insA O (y :: M) S hS) z (mem_insA M _ hz) ?_ ?_).symm
        · cases e : lt z x with
          | false => rfl
          | true => have := lt_le O e a; rw [h1] at this; exact absurd this (by simp)
        · cases e : lt x z with
          | false => rfl
          | true => have := le_lt O b e; rw [h2] at this; exact absurd this (by simp)
theorem insA_ofD (O : Ord (leOf lt)) {S : List α} (hS : Rs lt S) (b : List α) : insA lt S (ofD lt b) = insA lt S b := by
  refine snoc_ind (C := fun b => insA lt S (ofD lt b) = insA lt S b) rfl ?_ b
  intro l x ih
  rw [ofD_snoc, insA_ins O x _ _ (rs_ofD O l) hS, ih]
  unfold insA
  rw [List.foldl_append]
  rfl
theorem insD_past {z : α} : ∀ {P S : List α}, (∀ p ∈ P, lt p z = true) → insD lt z (P ++ S) = P ++ insD lt z S
  | [], S, _ => rfl
  | p :: P, S, h => by
    rw [List.cons_append, insD_lt (h p (List.mem_cons_self ..)), insD_past (fun q hq => h q (List.mem_cons_of_mem _ hq))]
    rfl
theorem insA_past {P : List α} : ∀ (M S : List α), (∀ p ∈ P, ∀ m ∈ M, lt p m = true) → insA lt (P ++ S) M = P ++ insA lt S M
  | [], S, _ => rfl
  | m :: M, S, h => by
    rw [insA_cons, insA_cons, insD_past (fun p hp => h p hp m (List.mem_cons_self ..)), insA_past M _ (fun p hp q hq => h p hp q (List.mem_cons_of_mem _ hq))]
theorem insA_ahead (O : Ord (leOf lt)) : ∀ (R S : List α), Rs lt R → (∀ r ∈ R, ∀ s ∈ S, lt r s = true) → insA lt S R = R ++ S
  | [], S, _, _ => rfl
  | r :: R, S, h, hs => by
    have h' := List.pairwise_cons.1 h
    have h0 : insD lt r S = r :: S := by
      cases S with
      | nil => rfl
      | cons s S =>
        have := hs r (List.mem_cons_self ..) s (List.mem_cons_self ..)
        exact insD_gt (lt_asym O this) this
    rw [insA_cons, h0]
    have h1 := insA_past (lt := lt) (P := [r]) R S (fun p hp m hm => by rw [List.mem_singleton.1 hp]; exact h'.1 m hm)
    rw [List.singleton_append] at h1
    rw [h1, insA_ahead O R S h'.2 (fun q hq => hs q (List.mem_cons_of_mem _ hq))]
    rfl
theorem pos_exG (O : Ord (leOf lt)) (x : α) : ∀ (r : List α), Rs lt r → ∃ k, Pos lt r x k
  | [], _ => ⟨0, Nat.le_refl _, fun t y ht => absurd ht (Nat.not_lt_zero _), fun t y _ hy => by simp at hy⟩
  | y :: r, h => by
    have h' := List.pairwise_cons.1 h
    cases e : lt y x with
    | true =>
      obtain ⟨k, hk⟩ := pos_exG O x r h'.2
      refine ⟨k + 1, by have := hk.le; simpa using this, fun t z ht hz => ?_, fun t z ht hz => ?_⟩
      · cases t with
        | zero => cases hz; exact e
        | succ t => exact hk.lo t z (by omega) (by simpa using hz)
      · cases t with
        | zero => omega
        | succ t => exact hk.hi t z (by omega) (by simpa using hz)
    | false =>
      refine ⟨0, Nat.zero_le _, fun t z ht => absurd ht (Nat.not_lt_zero _), fun t z _ hz => ?_⟩
      cases t with
      | zero => cases hz; exact e
      | succ t =>
        have h1 := h'.1 z (List.mem_of_getElem? (by simpa using hz))
        cases e2 : lt z x with
        | false => rfl
        | true => have := lt_tr O h1 e2; rw [e] at this; exact absurd this (by simp)
/-- Join: the first set, each thing of the other put in -/
theorem jn_insA (O : Ord (leOf lt)) {sm : α → α → Bool} (hsm : ∀ y x, sm y x = (!lt y x && !lt x y)) (fd : List α → α → Nat → Bool) (hfd : ∀ L x k, fd L x k = match L[k]? with | some y => sm y x | none => false) :
    ∀ (s r : List α), Rs lt s → Rs lt r → jn lt fd s r = insA lt s r
  | [], r, _, hr => by
    show r = insA lt [] r
    rw [insA_ahead O r [] hr (fun _ _ s hs => by simp at hs), List.append_nil]
  | x :: s, r, hs, hr => by
    have hs' := List.pairwise_cons.1 hs
    obtain ⟨k, hP⟩ := pos_exG O x r hr
    have hk := pF_pos hP
    rw [jn, ← hk]
    have hlo : ∀ p ∈ r.take k, lt p x = true := fun p hp => by
      obtain ⟨i, hi⟩ := List.mem_iff_getElem?.1 hp
      have hi2 : i < k := by have := (List.getElem?_eq_some_iff.1 hi).1; rw [List.length_take] at this; omega
      rw [List.getElem?_take_of_lt hi2] at hi
      exact hP.lo i p hi2 hi
    have hRk : Rs lt (r.take k) := List.Pairwise.sublist (List.take_sublist _ _) hr
    have h1 : insA lt (x :: s) r = insA lt (r.take k ++ x :: s) (r.drop k) := by
      conv => lhs; rw [← List.take_append_drop k r]
      unfold insA
      rw [List.foldl_append]
      congr 1
      refine insA_ahead O (r.take k) (x :: s) hRk fun p hp z hz => ?_
      rcases List.mem_cons.1 hz with rfl | hz
      · exact hlo p hp
      · exact lt_tr O (hlo p hp) (hs'.1 z hz)
    have hcr : ∀ p ∈ r.take k, ∀ m ∈ r.drop k, lt p m = true := fun p hp m hm => by
      have hpw := hr
      unfold Rs at hpw
      rw [← List.take_append_drop k r] at hpw
      exact (List.pairwise_append.1 hpw).2.2 p hp m hm
    rw [h1, insA_past _ _ hcr]
    congr 1
    have step : ∀ M : List α, Rs lt M → (∀ m ∈ M, lt x m = true) → x :: jn lt fd s M = insA lt (x :: s) M := fun M hM hx => by
      have h2 := insA_past (lt := lt) (P := [x]) M s (fun p hp m hm => by rw [List.mem_singleton.1 hp]; exact hx m hm)
      rw [List.singleton_append] at h2
      rw [h2, jn_insA O hsm fd hfd s M hs'.2 hM]
      rfl
    cases e : r[k]? with
    | none =>
      have hd : r.drop k = [] := List.drop_of_length_le (by simpa using e)
      have hf : fd r x k = false := by rw [hfd, e]
      rw [hf, hd]
      exact step [] List.Pairwise.nil (fun m hm => by simp at hm)
    | some y =>
      have hd := drop_cons e
      have hyx := hP.hi k y (Nat.le_refl _) e
      have hdr : Rs lt (y :: r.drop (k + 1)) := by rw [← hd]; exact List.Pairwise.sublist (List.drop_sublist _ _) hr
      have hd' := List.pairwise_cons.1 hdr
      have hf : fd r x k = sm y x := by rw [hfd, e]
      cases a : lt x y with
      | true =>
        have hs2 : sm y x = false := by rw [hsm, a]; simp
        rw [hf, hs2, hd]
        refine step (y :: r.drop (k + 1)) hdr fun m hm => ?_
        rcases List.mem_cons.1 hm with rfl | hm
        · exact a
        · exact lt_tr O a (hd'.1 m hm)
      | false =>
        have hs2 : sm y x = true := by rw [hsm, a, hyx]; rfl
        rw [hf, hs2, hd, insA_cons]
        have h4 : insD lt y (x :: s) = x :: s := insD_eq a hyx
        rw [h4]
        exact step (r.drop (k + 1)) hd'.2 fun m hm => le_lt O hyx (hd'.1 m hm)
theorem all_none (p : α → Bool) (L : List α) : (L.all p) = decide ((L.filter fun x => !p x).length = 0) := by
  induction L with
  | nil => rfl
  | cons x L ih =>
    rw [List.all_cons, ih, List.filter_cons]
    cases p x <;> simp
end
end Go.Proofs.Ytknibmehbplpbaa
