/-
  Proved here: what is wrong with parents, as plain mathematics.
-/
import Derived.Test.YtmgbhbdcnciccaaDagO
namespace Go.Proofs.Ytmgbhbdcnciccaa
set_option linter.unusedVariables false
/-- Is some parent no point? -/
def outsB (P : List (List Int)) : Bool := P.any (noPts (P.length : Int))
/-- Comes a number again? -/
def twiceB (zs : List Int) : Bool := decide ¬ zs.Nodup
def twicesB (P : List (List Int)) : Bool := P.any twiceB
/-- What checkLists answers. -/
def clE (P : List (List Int)) : Int := if outsB P then 3 else if twicesB P then 40 else 0
theorem outs_no {P : List (List Int)} (h : outsB P = false) (i : Nat) (x : Int) (hx : x ∈ P.getD i []) : ∃ p : Nat, x = (p : Int) ∧ p < P.length := by
  by_cases hi : i < P.length
  · have h1 : noPts (P.length : Int) (P.getD i []) = false := by
      have := List.any_eq_false.1 h (P.getD i []) (by rw [List.getD_eq_getElem?_getD, List.getElem?_eq_getElem hi]; exact List.getElem_mem hi)
      simpa using this
    have h2 := List.any_eq_false.1 h1 x hx
    have h3 : ¬ x < 0 ∧ ¬ (P.length : Int) ≤ x := by simpa [noPt] using h2
    exact ⟨x.toNat, by omega, by omega⟩
  · rw [List.getD_eq_getElem?_getD, List.getElem?_eq_none (by omega)] at hx
    simp at hx
theorem twices_no {P : List (List Int)} (h : twicesB P = false) (i : Nat) : (P.getD i []).Nodup := by
  by_cases hi : i < P.length
  · have := List.any_eq_false.1 h (P.getD i []) (by rw [List.getD_eq_getElem?_getD, List.getElem?_eq_getElem hi]; exact List.getElem_mem hi)
    simpa [twiceB] using this
  · rw [List.getD_eq_getElem?_getD, List.getElem?_eq_none (by omega)]
    exact List.nodup_nil
theorem anyP_take {p : List Int → Bool} {P : List (List Int)} {k : Nat} (hk : k < P.length) : (P.take (k + 1)).any p = ((P.take k).any p || p (P.getD k [])) := by
  rw [List.take_add_one, List.any_append, List.getD_eq_getElem?_getD, List.getElem?_eq_getElem hk]
  simp
theorem anyP_at {p : List Int → Bool} {P : List (List Int)} {k : Nat} (hk : k < P.length) (h : p (P.getD k []) = true) : P.any p = true := by
  rw [List.getD_eq_getElem?_getD, List.getElem?_eq_getElem hk] at h
  exact List.any_eq_true.2 ⟨_, List.getElem_mem hk, h⟩
/-- What the list of last points holds: by it one sees whether a parent came already for this point. -/
def LaI (P : List (List Int)) (i k : Nat) (La : List Int) : Prop := La.length = P.length ∧ ∀ p : Nat, p < P.length → (La.getD p 0 < (i : Int) + 1) ∧ (La.getD p 0 = (i : Int) ↔ (p : Int) ∈ (P.getD i []).take k)
theorem LaI.next {P : List (List Int)} {i k : Nat} {La : List Int} (h : LaI P i k La) : LaI P (i + 1) 0 La := ⟨h.1, fun p hp => ⟨by have := (h.2 p hp).1; omega, ⟨fun e => by have := (h.2 p hp).1; omega, fun e => by simp at e⟩⟩⟩
theorem LaI.step {P : List (List Int)} {i k p : Nat} {La : List Int} (h : LaI P i k La) (hp : p < P.length) (hk : (P.getD i [])[k]? = some (p : Int)) : LaI P i (k + 1) (La.set p (i : Int)) := by
  refine ⟨by rw [List.length_set]; exact h.1, fun q hq => ?_⟩
  rw [getD_set (by rw [h.1]; exact hp)]
  have e1 : (P.getD i []).take (k + 1) = (P.getD i []).take k ++ [(p : Int)] := by rw [List.take_add_one, hk]; rfl
  rw [e1, List.mem_append, List.mem_singleton]
  by_cases e : q = p
  · subst e; rw [if_pos rfl]; exact ⟨by omega, ⟨fun _ => Or.inr rfl, fun _ => rfl⟩⟩
  · rw [if_neg e]
    refine ⟨(h.2 q hq).1, (h.2 q hq).2.trans ⟨Or.inl, fun h2 => h2.resolve_right (by omega)⟩⟩
theorem LaI.start {P : List (List Int)} {n : Nat} (hn : P.length = n) : LaI P 0 0 (List.replicate n (-1)) := ⟨by simp [hn], fun p hp => by
  rw [List.getD_eq_getElem?_getD, List.getElem?_replicate, if_pos (by omega)]
  simp⟩
theorem nodup_take {zs : List Int} {k : Nat} {x : Int} (h : (zs.take k).Nodup) (hk : zs[k]? = some x) (hn : x ∉ zs.take k) : (zs.take (k + 1)).Nodup := by
  rw [List.take_add_one, hk, List.nodup_append]
  refine ⟨h, by simp, fun a ha b hb e => ?_⟩
  have : b = x := by simpa using hb
  subst this; subst e; exact hn ha
theorem twice_at {zs : List Int} {k : Nat} {x : Int} (hk : zs[k]? = some x) (hn : x ∈ zs.take k) : twiceB zs = true := by
  unfold twiceB
  refine decide_eq_true fun h => ?_
  have h2 : (zs.take (k + 1)).Nodup := h.sublist (List.take_sublist _ _)
  rw [List.take_add_one, hk, List.nodup_append] at h2
  exact h2.2.2 x hn x (by simp) rfl
end Go.Proofs.Ytmgbhbdcnciccaa
