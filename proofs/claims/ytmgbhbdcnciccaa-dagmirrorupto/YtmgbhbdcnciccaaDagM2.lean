/-
  Proved here, plain mathematics: what a taken point changes in who waits, and in the line of those that wait for none.
-/
import Derived.Test.YtmgbhbdcnciccaaDagM
namespace Go.Proofs.Ytmgbhbdcnciccaa
set_option linter.unusedVariables false
/-- A heap that holds just the points of a kind. -/
structure LnOk (n : Nat) (L : List Int) (R : Nat → Prop) : Prop where
  nd : L.Nodup
  hp : HeapN L L.length
  iff : ∀ x, x ∈ L ↔ ∃ i : Nat, i < n ∧ x = (i : Int) ∧ R i
theorem LnOk.nil {n : Nat} {R : Nat → Prop} (h : ∀ i, i < n → ¬ R i) : LnOk n [] R := ⟨List.nodup_nil, fun i _ h => by simp at h, fun x => ⟨fun h => by simp at h, fun ⟨i, h1, _, h3⟩ => absurd h3 (h i h1)⟩⟩
theorem LnOk.congr {n : Nat} {L : List Int} {R R' : Nat → Prop} (h : LnOk n L R) (e : ∀ i, i < n → (R i ↔ R' i)) : LnOk n L R' :=
  ⟨h.nd, h.hp, fun x => (h.iff x).trans ⟨fun ⟨i, h1, h2, h3⟩ => ⟨i, h1, h2, (e i h1).1 h3⟩, fun ⟨i, h1, h2, h3⟩ => ⟨i, h1, h2, (e i h1).2 h3⟩⟩⟩
theorem LnOk.len {n : Nat} {L : List Int} {R : Nat → Prop} (h : LnOk n L R) : L.length ≤ n := Pts.len ⟨h.nd, fun x hx => by obtain ⟨i, h1, rfl, _⟩ := (h.iff x).1 hx; omega⟩
theorem LnOk.push {n : Nat} {L : List Int} {R : Nat → Prop} (h : LnOk n L R) {i : Nat} (hi : i < n) (hn : ¬ R i) : LnOk n (upL (L ++ [(i : Int)]) L.length) (fun j => R j ∨ j = i) := by
  have hp := upL_perm L (i : Int)
  have hni : (i : Int) ∉ L := fun hm => by obtain ⟨j, _, e, hR⟩ := (h.iff _).1 hm; have : j = i := by omega
                                           subst this; exact hn hR
  refine ⟨hp.nodup_iff.2 ?_, ?_, fun x => hp.mem_iff.trans ?_⟩
  · rw [List.nodup_append]
    refine ⟨h.nd, by simp, fun a ha b hb e => ?_⟩
    rw [List.mem_singleton] at hb
    subst hb; subst e
    exact hni ha
  · rw [upL_len]; exact upL_push h.hp _
  · rw [List.mem_append, List.mem_singleton, h.iff]
    constructor
    · rintro (⟨j, h1, h2, h3⟩ | rfl)
      · exact ⟨j, h1, h2, Or.inl h3⟩
      · exact ⟨i, hi, rfl, Or.inr rfl⟩
    · rintro ⟨j, h1, h2, h3 | rfl⟩
      · exact Or.inl ⟨j, h1, h2, h3⟩
      · exact Or.inr h2
theorem LnOk.pop {n m : Nat} {L : List Int} {R : Nat → Prop} (h : LnOk n L R) (hl : L.length = m + 1) : ∃ i : Nat, i < n ∧ L.getD 0 0 = (i : Int) ∧ R i ∧ (∀ j, j < i → ¬ R j) ∧ LnOk n (popL L m) (fun j => R j ∧ j ≠ i) := by
  have hp := popL_perm hl
  have h0 : L.getD 0 0 ∈ L := hp.mem_iff.1 (by simp)
  obtain ⟨i, hi, e, hR⟩ := (h.iff _).1 h0
  have hnd : (L.getD 0 0 :: popL L m).Nodup := hp.nodup_iff.2 h.nd
  rw [List.nodup_cons] at hnd
  refine ⟨i, hi, e, hR, fun j hj hRj => ?_, hnd.2, ?_, fun x => ?_⟩
  · have hm : (j : Int) ∈ L := (h.iff _).2 ⟨j, by omega, rfl, hRj⟩
    obtain ⟨k, hk, ek⟩ := List.getElem_of_mem hm
    have := h.hp.least k hk
    rw [e, List.getD_eq_getElem?_getD, List.getElem?_eq_getElem hk] at this
    simp only [Option.getD_some, ek] at this
    omega
  · rw [popL_len hl]; exact popL_heap hl (hl ▸ h.hp)
  · constructor
    · intro hx
      obtain ⟨j, h1, rfl, h3⟩ := (h.iff x).1 (hp.mem_iff.1 (List.mem_cons_of_mem _ hx))
      exact ⟨j, h1, rfl, h3, fun e2 => hnd.1 (by rw [e, ← e2]; exact hx)⟩
    · rintro ⟨j, h1, rfl, h3, h4⟩
      have hm := hp.mem_iff.2 ((h.iff _).2 ⟨j, h1, rfl, h3⟩)
      rcases List.mem_cons.1 hm with e2 | e2
      · exact absurd (by omega) h4
      · exact e2
/-- What stands in the line while a point's children are gone through. -/
def TkR (P : List (List Int)) (T : List Int) (pt : Nat) (pre : List Int) (i : Nat) : Prop := (rdy P T i ∧ i ≠ pt) ∨ ((i : Int) ∈ pre ∧ rdy P (T ++ [(pt : Int)]) i)
theorem tk_start {P : List (List Int)} {T : List Int} {pt i : Nat} : (rdy P T i ∧ i ≠ pt) ↔ TkR P T pt [] i := by simp [TkR]
theorem tk_yes {P : List (List Int)} {T : List Int} {pt c i : Nat} {pre : List Int} (h : rdy P (T ++ [(pt : Int)]) c) : (TkR P T pt pre i ∨ i = c) ↔ TkR P T pt (pre ++ [(c : Int)]) i := by
  unfold TkR
  rw [List.mem_append, List.mem_singleton]
  constructor
  · rintro ((h1 | h1) | rfl)
    · exact Or.inl h1
    · exact Or.inr ⟨Or.inl h1.1, h1.2⟩
    · exact Or.inr ⟨Or.inr rfl, h⟩
  · rintro (h1 | ⟨h1 | h1, h2⟩)
    · exact Or.inl (Or.inl h1)
    · exact Or.inl (Or.inr ⟨h1, h2⟩)
    · exact Or.inr (by omega)
theorem tk_no {P : List (List Int)} {T : List Int} {pt c i : Nat} {pre : List Int} (h : ¬ rdy P (T ++ [(pt : Int)]) c) : TkR P T pt pre i ↔ TkR P T pt (pre ++ [(c : Int)]) i := by
  unfold TkR
  rw [List.mem_append, List.mem_singleton]
  constructor
  · rintro (h1 | h1)
    · exact Or.inl h1
    · exact Or.inr ⟨Or.inl h1.1, h1.2⟩
  · rintro (h1 | ⟨h1 | h1, h2⟩)
    · exact Or.inl h1
    · exact Or.inr ⟨h1, h2⟩
    · have : i = c := by omega
      subst this; exact absurd h2 h
theorem tk_new {P : List (List Int)} {T : List Int} {pt c : Nat} {pre : List Int} (hm : (pt : Int) ∈ P.getD c []) (hT : (pt : Int) ∉ T) (hp : (c : Int) ∉ pre) : ¬ TkR P T pt pre c := by
  rintro (⟨h, _⟩ | ⟨h, _⟩)
  · exact hT (h.2 _ hm)
  · exact hp h
theorem tk_end {P : List (List Int)} {T : List Int} {pt : Nat} {ch : List Int} (hch : ∀ i : Nat, i < P.length → ((i : Int) ∈ ch ↔ (pt : Int) ∈ P.getD i [])) (hpt : rdy P T pt) {i : Nat} (hi : i < P.length) : TkR P T pt ch i ↔ rdy P (T ++ [(pt : Int)]) i := by
  constructor
  · rintro (⟨h, hne⟩ | ⟨_, h⟩)
    · refine ⟨fun hm => ?_, fun p hp => List.mem_append_left _ (h.2 p hp)⟩
      rcases List.mem_append.1 hm with e | e
      · exact h.1 e
      · rw [List.mem_singleton] at e; omega
    · exact h
  · intro h
    by_cases hm : (pt : Int) ∈ P.getD i []
    · exact Or.inr ⟨(hch i hi).2 hm, h⟩
    · refine Or.inl ⟨⟨fun e => h.1 (List.mem_append_left _ e), fun p hp => ?_⟩, fun e => h.1 (by subst e; simp)⟩
      rcases List.mem_append.1 (h.2 p hp) with e | e
      · exact e
      · rw [List.mem_singleton] at e; subst e; exact absurd hp hm
/-- Who waits for how many while a point's children are gone through. -/
structure WtR (P : List (List Int)) (T : List Int) (pre : List Int) (Wt : List Int) : Prop where
  len : Wt.length = P.length
  at' : ∀ i : Nat, i < P.length → Wt.getD i 0 = (cntW P T i : Int) - (if (i : Int) ∈ pre then 1 else 0)
theorem getD_set {L : List Int} {i j : Nat} {x : Int} (h : i < L.length) : (L.set i x).getD j 0 = if j = i then x else L.getD j 0 := by
  rw [List.getD_eq_getElem?_getD, List.getElem?_set]
  by_cases e : i = j
  · subst e; simp [h]
  · rw [if_neg e, if_neg (fun e2 => e e2.symm), List.getD_eq_getElem?_getD]
theorem WtR.step {P : List (List Int)} {T pre Wt : List Int} (h : WtR P T pre Wt) {c : Nat} (hc : c < P.length) (hp : (c : Int) ∉ pre) : Wt.getD c 0 = (cntW P T c : Int) ∧ WtR P T (pre ++ [(c : Int)]) (Wt.set c ((cntW P T c : Int) - 1)) := by
  have h1 : Wt.getD c 0 = (cntW P T c : Int) := by rw [h.at' c hc, if_neg hp]; omega
  refine ⟨h1, by rw [List.length_set]; exact h.len, fun i hi => ?_⟩
  rw [getD_set (by rw [h.len]; exact hc)]
  by_cases e : i = c
  · subst e; rw [if_pos rfl, if_pos (by simp)]
  · rw [if_neg e, h.at' i hi]
    have : ((i : Int) ∈ pre ++ [(c : Int)]) ↔ ((i : Int) ∈ pre) := by
      rw [List.mem_append, List.mem_singleton]
      exact ⟨fun h => h.resolve_right (by omega), Or.inl⟩
    simp only [this]
theorem WtR.done {P : List (List Int)} {T ch Wt : List Int} {pt : Nat} (h : WtR P T ch Wt) (hch : ∀ i : Nat, i < P.length → ((i : Int) ∈ ch ↔ (pt : Int) ∈ P.getD i [])) (hnd : ∀ i, (P.getD i []).Nodup) (hpt : (pt : Int) ∉ T) : WtR P (T ++ [(pt : Int)]) [] Wt :=
  ⟨h.len, fun i hi => by
    have := cnt_step (P := P) (T := T) (pt := pt) (hnd i) hpt
    rw [h.at' i hi]
    simp only [hch i hi]
    split at this <;> simp_all <;> omega⟩
theorem rdy_zero {P : List (List Int)} {T : List Int} {pt c : Nat} (hnd : (P.getD c []).Nodup) (hm : (pt : Int) ∈ P.getD c []) (hpt : (pt : Int) ∉ T) : rdy P (T ++ [(pt : Int)]) c ↔ ((cntW P T c : Int) - 1 = 0 ∧ (c : Int) ∉ T ++ [(pt : Int)]) := by
  have h1 := cnt_step (P := P) (T := T) (pt := pt) hnd hpt
  rw [if_pos hm] at h1
  unfold rdy
  rw [← cnt_zero]
  constructor
  · rintro ⟨a, b⟩; exact ⟨by omega, a⟩
  · rintro ⟨a, b⟩; exact ⟨b, by omega⟩
end Go.Proofs.Ytmgbhbdcnciccaa
