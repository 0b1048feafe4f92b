/-
  Proved here: mathematics (no program): a thing put into a rising list where it belongs; a list put in thing by thing is what sorting and leaving out leaves.
-/
import Derived.Test.YtknibmehbplpbaaSetJn
namespace Go.Proofs.Ytknibmehbplpbaa
open Go.Shelf Go.RowKit Go.Lib Go.Sort
section
variable {α : Type}
/-- x put in, unless the same thing is there -/
def insD (lt : α → α → Bool) (x : α) : List α → List α
  | [] => [x]
  | y :: l => if lt y x then y :: insD lt x l else if lt x y then x :: y :: l else y :: l
def ofD (lt : α → α → Bool) (l : List α) : List α := l.foldl (fun s x => insD lt x s) []
variable {lt : α → α → Bool}
theorem insD_lt {x y : α} {l : List α} (h : lt y x = true) : insD lt x (y :: l) = y :: insD lt x l := by rw [insD, if_pos h]
theorem insD_gt {x y : α} {l : List α} (h0 : lt y x = false) (h : lt x y = true) : insD lt x (y :: l) = x :: y :: l := by rw [insD, if_neg (by simp [h0]), if_pos h]
theorem insD_eq {x y : α} {l : List α} (h0 : lt y x = false) (h : lt x y = false) : insD lt x (y :: l) = y :: l := by rw [insD, if_neg (by simp [h0]), if_neg (by simp [h])]
theorem ofD_snoc (l : List α) (x : α) : ofD lt (l ++ [x]) = insD lt x (ofD lt l) := by unfold ofD; rw [List.foldl_append]; rfl
/-- where it stands tells what is left -/
theorem insD_at {x : α} : ∀ {L : List α} {k : Nat}, (∀ t y, t < k → L[t]? = some y → lt y x = true) → k ≤ L.length → (∀ y, L[k]? = some y → lt y x = false) →
    insD lt x L = (match L[k]? with | some y => if lt x y then L.take k ++ x :: L.drop k else L | none => L.take k ++ x :: L.drop k)
  | [], k, _, h2, _ => by
    have : k = 0 := by simpa using h2
    subst this; rfl
  | y :: L, 0, _, _, h3 => by
    have h0 := h3 y rfl
    rw [insD, if_neg (by simp [h0])]
    rfl
  | y :: L, k + 1, h1, h2, h3 => by
    have h0 := h1 0 y (by omega) rfl
    have ih := insD_at (x := x) (L := L) (k := k) (fun t z ht hz => h1 (t + 1) z (by omega) (by simpa using hz)) (by simpa using h2) (fun z hz => h3 z (by simpa using hz))
    rw [insD_lt h0, ih]
    rw [show (y :: L)[k + 1]? = L[k]? from rfl]
    cases L[k]? with
    | none => simp
    | some z =>
      simp only
      split <;> simp
theorem insD_len (x : α) : ∀ l : List α, (insD lt x l).length ≤ l.length + 1
  | [] => by simp [insD]
  | y :: l => by
    have := insD_len x l
    unfold insD
    split
    · simp only [List.length_cons]; omega
    · split <;> simp
theorem ofD_len (l : List α) : (ofD lt l).length ≤ l.length := by
  refine snoc_ind (C := fun l => (ofD lt l).length ≤ l.length) ?_ ?_ l
  · simp [ofD]
  · intro l x ih
    rw [ofD_snoc, List.length_append]
    have := insD_len (lt := lt) x (ofD lt l)
    simp only [List.length_cons, List.length_nil]
    omega
theorem insS_lt {le : α → α → Bool} {x y : α} {l : List α} (h : le y x = true) : insS le x (y :: l) = y :: insS le x l := by rw [insS, if_pos h]
theorem insS_gt {le : α → α → Bool} {x y : α} {l : List α} (h : le y x = false) : insS le x (y :: l) = x :: y :: l := by rw [insS, if_neg (by simp [h])]
theorem cptF_ins (O : Ord (leOf lt)) {sm : α → α → Bool} (hsm : ∀ y x, sm y x = (!lt y x && !lt x y)) (x : α) : ∀ (l : List α) (p : α), Srt (leOf lt) (p :: l) → leOf lt p x = true →
    cptF sm p (insS (leOf lt) x l) = if sm x p then cptF sm p l else insD lt x (cptF sm p l)
  | [], p, _, _ => by
    unfold insS
    cases e : sm x p with
    | true => rw [cptF_yes _ e]; rfl
    | false => rw [cptF_no _ e]; rfl
  | y :: l, p, h, hpx => by
    have h' := List.pairwise_cons.1 h
    have hpy := h'.1 y (by simp)
    have npx : lt x p = false := by simpa [leOf] using hpx
    have npy : lt y p = false := by simpa [leOf] using hpy
    cases eyx : leOf lt y x with
    | true =>
      have nxy : lt x y = false := by simpa [leOf] using eyx
      rw [insS_lt eyx]
      have ih := cptF_ins O hsm x l y h'.2 eyx
      cases e : sm y p with
      | true =>
        rw [cptF_yes _ e, cptF_yes _ e, ih]
        have h1 : lt p y = false := by rw [hsm] at e; simp only [Bool.and_eq_true, Bool.not_eq_true'] at e; exact e.2
        have : sm x y = sm x p := by
          rw [hsm, hsm, nxy, npx]
          simp only [Bool.not_false, Bool.true_and]
          congr 1
          cases a : lt y x with
          | true =>
            cases b : lt p x with
            | true => rfl
            | false => exact (le_off a (O.trans x p y (le_yes b) (le_yes npy))).elim
          | false =>
            cases b : lt p x with
            | true => exact (le_off b (O.trans x y p (le_yes a) (le_yes h1))).elim
            | false => rfl
        rw [this]
      | false =>
        rw [cptF_no _ e, cptF_no _ e, ih]
        have hpylt : lt p y = true := by
          rw [hsm, npy] at e
          simpa using e
        have hxp : sm x p = false := by
          rw [hsm, npx]
          cases b : lt p x with
          | true => rfl
          | false => exact (le_off hpylt (O.trans y x p eyx (le_yes b))).elim
        rw [hxp]
        cases a : sm x y with
        | true =>
          rw [hsm, nxy] at a
          simp only [Bool.not_false, Bool.true_and, Bool.not_eq_true'] at a
          simp only [if_true, Bool.false_eq_true, if_false]
          rw [insD_eq a nxy]
        | false =>
          rw [hsm, nxy] at a
          simp only [Bool.not_false, Bool.true_and, Bool.not_eq_false'] at a
          simp only [Bool.false_eq_true, if_false]
          rw [insD_lt a]
    | false =>
      have hxy : lt x y = true := by simpa [leOf] using eyx
      have nyx : lt y x = false := lt_asym O hxy
      rw [insS_gt eyx]
      have hyp : sm y p = false := by
        rw [hsm, npy]
        cases b : lt p y with
        | true => rfl
        | false => exact (le_off hxy (O.trans y p x (le_yes b) hpx)).elim
      have hyx : sm y x = false := by rw [hsm, hxy, nyx]; rfl
      rw [cptF_no l hyp]
      cases e : sm x p with
      | true => rw [cptF_yes _ e, cptF_no _ hyx, if_pos rfl]
      | false => rw [cptF_no _ e, cptF_no _ hyx, if_neg (by simp), insD_gt nyx hxy]
theorem cpt_ins (O : Ord (leOf lt)) {sm : α → α → Bool} (hsm : ∀ y x, sm y x = (!lt y x && !lt x y)) (x : α) (l : List α) (h : Srt (leOf lt) l) :
    cpt sm (insS (leOf lt) x l) = insD lt x (cpt sm l) := by
  cases l with
  | nil => rfl
  | cons y l =>
    cases eyx : leOf lt y x with
    | true =>
      rw [insS_lt eyx]
      show y :: cptF sm y (insS (leOf lt) x l) = insD lt x (y :: cptF sm y l)
      rw [cptF_ins O hsm x l y h eyx]
      have nxy : lt x y = false := by simpa [leOf] using eyx
      cases a : sm x y with
      | true =>
        rw [hsm, nxy] at a
        simp only [Bool.not_false, Bool.true_and, Bool.not_eq_true'] at a
        rw [if_pos rfl, insD_eq a nxy]
      | false =>
        rw [hsm, nxy] at a
        simp only [Bool.not_false, Bool.true_and, Bool.not_eq_false'] at a
        rw [if_neg (by simp), insD_lt a]
    | false =>
      have hxy : lt x y = true := by simpa [leOf] using eyx
      have nyx : lt y x = false := lt_asym O hxy
      rw [insS_gt eyx]
      have hyx : sm y x = false := by rw [hsm, hxy, nyx]; rfl
      show x :: cptF sm x (y :: l) = insD lt x (y :: cptF sm y l)
      rw [cptF_no _ hyx, insD_gt nyx hxy]
/-- sorted and left out, or put in thing by thing: the same -/
theorem cpt_sortS (O : Ord (leOf lt)) {sm : α → α → Bool} (hsm : ∀ y x, sm y x = (!lt y x && !lt x y)) (l : List α) : cpt sm (sortS (leOf lt) l) = ofD lt l := by
  refine snoc_ind (C := fun l => cpt sm (sortS (leOf lt) l) = ofD lt l) rfl ?_ l
  intro l x ih
  have : sortS (leOf lt) (l ++ [x]) = insS (leOf lt) x (sortS (leOf lt) l) := by unfold sortS; rw [List.foldl_append]; rfl
  rw [this, cpt_ins O hsm x _ (srt_sortS O l), ih, ofD_snoc]
/-- With, and thing by thing -/
theorem with_ins (O : Ord (leOf lt)) {sm : α → α → Bool} (hsm : ∀ y x, sm y x = (!lt y x && !lt x y)) {L : List α} (hR : Rs lt L) {x : α} {k : Nat} (hP : Pos lt L x k) :
    (if L.any (fun y => sm y x) then L else L.take k ++ x :: L.drop k) = insD lt x L := by
  rw [insD_at hP.lo hP.le (fun y hy => hP.hi k y (Nat.le_refl _) hy), has_pos O hR hP sm hsm]
  cases e : L[k]? with
  | none => simp
  | some y =>
    simp only
    have h0 := hP.hi k y (Nat.le_refl _) e
    have h1 : sm y x = !lt x y := by rw [hsm, h0]; rfl
    simp only [h1]
    cases lt x y <;> simp
theorem rs_ins (O : Ord (leOf lt)) {x : α} : ∀ {L : List α}, Rs lt L → Rs lt (insD lt x L) ∧ ∀ z ∈ insD lt x L, z = x ∨ z ∈ L
  | [], _ => ⟨by simp [insD, Rs], by simp [insD]⟩
  | y :: L, h => by
    have h' := List.pairwise_cons.1 h
    cases e : lt y x with
    | true =>
      rw [insD_lt e]
      have ih := rs_ins O (x := x) (L := L) h'.2
      refine ⟨List.pairwise_cons.2 ⟨fun z hz => ?_, ih.1⟩, fun z hz => ?_⟩
      · rcases ih.2 z hz with rfl | hz
        · exact e
        · exact h'.1 z hz
      · rcases List.mem_cons.1 hz with rfl | hz
        · exact .inr (List.mem_cons_self ..)
        · rcases ih.2 z hz with rfl | hz
          · exact .inl rfl
          · exact .inr (List.mem_cons_of_mem _ hz)
    | false =>
      cases e2 : lt x y with
      | true =>
        rw [insD_gt e e2]
        refine ⟨List.pairwise_cons.2 ⟨fun z hz => ?_, h⟩, fun z hz => ?_⟩
        · rcases List.mem_cons.1 hz with rfl | hz
          · exact e2
          · cases e3 : lt x z with
            | true => rfl
            | false => exact (le_off (h'.1 z hz) (O.trans z x y (le_yes e3) (le_yes e))).elim
        · rcases List.mem_cons.1 hz with rfl | hz
          · exact .inl rfl
          · exact .inr hz
      | false =>
        rw [insD_eq e e2]
        exact ⟨h, fun z hz => .inr hz⟩
theorem rs_ofD (O : Ord (leOf lt)) (l : List α) : Rs lt (ofD lt l) := by
  refine snoc_ind (C := fun l => Rs lt (ofD lt l)) List.Pairwise.nil ?_ l
  intro l x ih
  rw [ofD_snoc]
  exact (rs_ins O ih).1
theorem has_ins (O : Ord (leOf lt)) {sm : α → α → Bool} (hsm : ∀ y x, sm y x = (!lt y x && !lt x y)) {x : α} : ∀ {L : List α}, (insD lt x L).any (fun y => sm y x) = true
  | [] => by
    have : lt x x = false := by cases e : lt x x with | false => rfl | true => have := lt_asym O e; rw [e] at this; exact this
    simp [insD, hsm, this]
  | y :: L => by
    have hxx : lt x x = false := by cases e : lt x x with | false => rfl | true => have := lt_asym O e; rw [e] at this; exact this
    cases e : lt y x with
    | true => rw [insD_lt e, List.any_cons, has_ins O hsm, Bool.or_true]
    | false =>
      cases e2 : lt x y with
      | true => rw [insD_gt e e2, List.any_cons, hsm, hxx]; rfl
      | false => rw [insD_eq e e2, List.any_cons, hsm, e, e2]; rfl
/-- what Without leaves -/
def wout (sm : α → α → Bool) (L : List α) (x : α) : List α := L.filter fun y => !sm y x
theorem rs_wout {sm : α → α → Bool} {L : List α} (h : Rs lt L) (x : α) : Rs lt (wout sm L x) := List.Pairwise.sublist List.filter_sublist h
theorem has_wout {sm : α → α → Bool} (L : List α) (x : α) : (wout sm L x).any (fun y => sm y x) = false := by
  rw [List.any_eq_false]
  intro y hy
  have := (List.mem_filter.1 hy).2
  simpa using this
theorem wout_at (O : Ord (leOf lt)) {sm : α → α → Bool} (hsm : ∀ y x, sm y x = (!lt y x && !lt x y)) {L : List α} (hR : Rs lt L) {x : α} {k : Nat} (hP : Pos lt L x k) :
    (if L.any (fun y => sm y x) then L.take k ++ L.drop (k + 1) else L) = wout sm L x := by
  have h1 : (L.take k).filter (fun y => !sm y x) = L.take k := by
    rw [List.filter_eq_self]
    intro y hy
    obtain ⟨i, hi, e⟩ := List.mem_iff_getElem?.1 hy |>.imp fun i h => (⟨(by have := (List.getElem?_eq_some_iff.1 h).1; rw [List.length_take] at this; omega), h⟩ : i < k ∧ (L.take k)[i]? = some y)
    rw [List.getElem?_take_of_lt hi] at e
    rw [hsm, hP.lo i y hi e]
    rfl
  rw [has_pos O hR hP sm hsm]
  unfold wout
  conv => rhs; rw [← List.take_append_drop k L]
  rw [List.filter_append, h1]
  cases e : L[k]? with
  | none =>
    simp only [Bool.false_eq_true, if_false]
    rw [List.drop_of_length_le (by simpa using e)]
    rw [List.take_of_length_le (by simpa using e)]
    simp
  | some y =>
    have hd := drop_cons e
    have h3 : (L.drop (k + 1)).filter (fun y => !sm y x) = L.drop (k + 1) := by
      rw [List.filter_eq_self]
      intro z hz
      have hs : Rs lt (y :: L.drop (k + 1)) := by rw [← hd]; exact List.Pairwise.sublist (List.drop_sublist k L) hR
      have hyz := (List.pairwise_cons.1 hs).1 z hz
      have hyx := hP.hi k y (Nat.le_refl _) e
      rw [hsm]
      cases a : lt x z with
      | true => simp
      | false => exact (le_off hyz (O.trans z x y (le_yes a) (le_yes hyx))).elim
    rw [hd, List.filter_cons, h3]
    simp only
    by_cases a : sm y x = true
    · simp [a]
    · have a2 : (!sm y x) = true := by simpa using a
      rw [if_neg a, if_pos a2, ← hd, List.take_append_drop]
theorem allS_refl {sm : α → α → Bool} (h : ∀ x, sm x x = true) : ∀ L : List α, allS sm L L = true
  | [] => rfl
  | x :: L => by rw [allS, h, allS_refl h L]; rfl
theorem filter_has {sm : α → α → Bool} (h : ∀ x, sm x x = true) (L : List α) : L.filter (fun x => L.any fun y => sm y x) = L := by
  rw [List.filter_eq_self]
  intro x hx
  rw [List.any_eq_true]
  exact ⟨x, hx, h x⟩
end
end Go.Proofs.Ytknibmehbplpbaa
