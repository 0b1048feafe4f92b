/-
  Proved here, plain mathematics: in the order each point stands once, behind all that it hangs on.
-/
import Derived.Test.YtmgbhbdcnciccaaDagCyAAll
import Derived.Test.YtmgbhbdcnciccaaDagCyO
namespace Go.Proofs.Ytmgbhbdcnciccaa
set_option linter.unusedVariables false
/-- Each stands behind its parents, and not twice. -/
def GdO (P : List (List Int)) (T : List Int) : Prop := ∀ (k : Nat) (x : Int), T[k]? = some x → (∀ p ∈ P.getD x.toNat [], p ∈ T.take k) ∧ x ∉ T.take k
theorem GdO.snoc {P : List (List Int)} {T : List Int} (h : GdO P T) {i : Nat} (hr : rdy P T i) : GdO P (T ++ [(i : Int)]) := by
  intro k x hx
  rcases Nat.lt_or_ge k T.length with e | e
  · rw [List.getElem?_append_left e] at hx
    rw [List.take_append_of_le_length (by omega)]
    exact h k x hx
  · have hk : k = T.length := by
      have := (List.getElem?_eq_some_iff.1 hx).1
      rw [List.length_append, List.length_singleton] at this
      omega
    subst hk
    rw [List.getElem?_append_right (Nat.le_refl _), Nat.sub_self] at hx
    have e2 : x = (i : Int) := by simpa using hx.symm
    subst e2
    rw [List.take_left', Int.toNat_natCast]
    · exact ⟨hr.2, hr.1⟩
    · rfl
theorem GdO.out {P : List (List Int)} : ∀ (f : Nat) (T : List Int), GdO P T → GdO P (outF P f T) := by
  intro f
  induction f with
  | zero => intro T h; exact h
  | succ f ih =>
    intro T h
    rcases hn : nxtF P T with _ | i
    · have e : outF P (f + 1) T = T := by rw [outF, hn]
      rw [e]; exact h
    · have e : outF P (f + 1) T = outF P f (T ++ [(i : Int)]) := by rw [outF, hn]
      rw [e]
      refine ih _ (h.snoc ?_)
      unfold nxtF at hn
      have h1 := List.find?_some hn
      simpa using h1
theorem out_gd (P : List (List Int)) : GdO P (outL P) := GdO.out _ _ (fun k x h => by simp at h)
/-- Where all are in the order: where a point stands, and where its parents do. -/
theorem out_place {P : List (List Int)} (h : (outL P).length = P.length) {i : Nat} (hi : i < P.length) : ∃ k : Nat, plF (outL P) (i : Int) = (k : Int) ∧ ∀ p ∈ P.getD i [], plF (outL P) p < (k : Int) := by
  have hpn : Pts P.length ([] : List Int) := ⟨List.nodup_nil, by simp⟩
  have hP := (out_all (P := P) P.length [] hpn).2.1
  have hP' : Pts P.length (outL P) := hP
  have hmem : (i : Int) ∈ outL P := by
    rcases Classical.em ((i : Int) ∈ outL P) with e | e
    · exact e
    · have := (hP'.snoc hi e).len
      rw [List.length_append, List.length_singleton] at this
      omega
  obtain ⟨k, hk, e⟩ := List.getElem_of_mem hmem
  have hk2 : (outL P)[k]? = some (i : Int) := by rw [← e]; exact List.getElem?_eq_getElem hk
  obtain ⟨g1, g2⟩ := out_gd P k _ hk2
  rw [Int.toNat_natCast] at g1
  refine ⟨k, plF_some hk2 g2, fun p hp => ?_⟩
  obtain ⟨j, hj, ej⟩ := List.getElem_of_mem (g1 p hp)
  rw [List.length_take] at hj
  have hj2 : (outL P)[j]? = some p := by
    have h1 : ((outL P).take k)[j]? = some p := by rw [← ej]; exact List.getElem?_eq_getElem (by rw [List.length_take]; exact hj)
    rwa [List.getElem?_take_of_lt (by omega)] at h1
  rw [plF_some hj2 (out_gd P j p hj2).2]
  omega
end Go.Proofs.Ytmgbhbdcnciccaa
