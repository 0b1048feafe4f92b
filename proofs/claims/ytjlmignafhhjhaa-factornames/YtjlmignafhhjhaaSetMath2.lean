/-
  Proved here: mathematics (no program): where a thing stands in a sorted list; two lists held against each other; rows of rows.
-/
import Derived.Test.YtjlmignafhhjhaaSetCpt
namespace Go.Proofs.Ytjlmignafhhjhaa
open Go.Shelf Go.RowKit Go.Lib Go.Sort
section
variable {α : Type}
/-- k things are below, the others are not -/
structure Pos (lt : α → α → Bool) (L : List α) (x : α) (k : Nat) : Prop where
  le : k ≤ L.length
  lo : ∀ t y, t < k → L[t]? = some y → lt y x = true
  hi : ∀ t y, k ≤ t → L[t]? = some y → lt y x = false
theorem srt_mono {lt : α → α → Bool} (O : Ord (leOf lt)) {L : List α} (h : Srt (leOf lt) L) {s t : Nat} {x y z : α} (hst : s ≤ t) (hs : L[s]? = some y) (ht : L[t]? = some z) (hz : lt z x = true) : lt y x = true := by
  cases e : lt y x with
  | true => rfl
  | false =>
    obtain ⟨h1, rfl⟩ := List.getElem?_eq_some_iff.1 hs
    obtain ⟨h2, rfl⟩ := List.getElem?_eq_some_iff.1 ht
    have hle : leOf lt L[s] L[t] = true := by
      by_cases e2 : s = t
      · subst e2; exact O.refl _
      · exact (List.pairwise_iff_getElem.1 h) s t h1 h2 (by omega)
    have := O.trans _ _ _ (le_yes e) hle
    exact (le_off hz this).elim
end
section
variable {α : Type} {enc : α → Value}
/-- a row of rows that can be read -/
def RR (enc : α → Value) (w : World) (v : Value) (Ls : List (List α)) : Prop :=
  ∃ vs : List Value, RG id w v vs ∧ vs.length = Ls.length ∧ ∀ (i : Nat) (u : Value) (L : List α), vs[i]? = some u → Ls[i]? = some L → RG enc w u L
theorem flat_step {Ls : List (List α)} {i : Nat} {L : List α} (h : Ls[i]? = some L) : (Ls.take (i + 1)).flatten = (Ls.take i).flatten ++ L := by
  rw [take_snoc h, List.flatten_append]; simp
theorem flat_le (Ls : List (List α)) (i : Nat) : (Ls.take i).flatten.length ≤ Ls.flatten.length := by
  conv => rhs; rw [← List.take_append_drop i Ls]
  rw [List.flatten_append, List.length_append]
  omega
theorem OG.zeros (B e g : Nat) (w : World) (cap : Nat) (cur : Array Value) (hB : B ≤ g) (hg : w.heap[g]? = some (.cells cur e)) (hc : cur.size = cap) (hm : cap ≤ maxLen) : OG enc B e w (.slice (some ⟨g, 0, none⟩) 0 cap) [] :=
  ⟨rfl, .inr ⟨g, cap, cur, rfl, hB, hg, Nat.zero_le _, hm, by omega, by simp⟩⟩
end
end Go.Proofs.Ytjlmignafhhjhaa
