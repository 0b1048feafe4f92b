/-
  Proved here: a word of package lex goes on in the text, and how a list of words ends.
-/
import Derived.Test.YtjiolinhkadoaaaDoorLexN
namespace Go.Proofs.YtjiolinhkadoaaaDoor
open Go.RowKit

theorem qF_end (s : ByteArray) : ∀ n a acc l j, qF s n a acc = some (l, j) → a < j ∧ j ≤ s.size
  | 0, a, acc, l, j, h => by cases h
  | n + 1, a, acc, l, j, h => by
    unfold qF at h
    split at h
    · rename_i h0
      split at h
      · simp only [Option.some.injEq, Prod.mk.injEq] at h; omega
      · split at h
        · cases h
        · split at h
          · split at h
            · have := qF_end s n (a + 2) _ l j h; omega
            · cases h
          · have := qF_end s n (a + 1) _ l j h; omega
    · cases h
theorem run_adv {p : Nat → Bool} {s : ByteArray} {i : Nat} (hi : i < s.size) (hp : p (atB s i) = true) : i < runEnd p s i := by
  rw [runEnd_yes hi hp]
  exact Nat.lt_of_lt_of_le (Nat.lt_succ_self i) (le_runEnd p s (i + 1))
theorem word_adv {s : ByteArray} {i : Nat} (hi : i ≤ s.size) {k : Int} {ms : ByteArray} {li co j : Nat} (h : wordOut s i = .tok k ms li co j) (hk : k ≠ 0) : i < j ∧ j ≤ s.size := by
  unfold wordOut at h
  split at h
  · cases h; exact absurd rfl hk
  · rename_i hne
    have hlt : i < s.size := by omega
    split at h
    · rename_i h2
      unfold nameOut at h
      split at h
      · cases h
      · cases h
        exact ⟨run_adv hlt (by unfold isW; rw [h2]; rfl), runEnd_size _ _ hi⟩
    · split at h
      · rename_i h3
        unfold numOut at h
        split at h
        · cases h
        · cases h
          have h4 := run_adv (p := isD) hlt (by unfold isD; rw [h3]; rfl)
          have h5 := pt_facts s (runEnd isD s i) (runEnd_size _ _ hi)
          have h6 := xpo_facts s (ptEnd s (runEnd isD s i)) h5.2.1
          unfold numEnd
          omega
      · split at h
        · unfold quoteOut at h
          cases hq : qF s (s.size + 1) (i + 1) [] with
          | none => rw [hq] at h; cases h
          | some p =>
            obtain ⟨l, j'⟩ := p
            rw [hq] at h
            cases h
            have := qF_end s _ _ _ _ _ hq
            omega
        · split at h
          · cases h; omega
          · cases h
theorem next_adv {s : ByteArray} {i : Nat} (hi : i ≤ s.size) {k : Int} {ms : ByteArray} {li co j : Nat} (h : nextOut s i = .tok k ms li co j) (hk : k ≠ 0) : i < j ∧ j ≤ s.size := by
  unfold nextOut nextTold at h
  have h1 := sk_le s (s.size + 1) i hi
  split at h
  · have := word_adv h1.2 h hk; omega
  · cases h
/-- Is this the last that is told? -/
def Out.last : Out → Bool
  | .tok k _ _ _ _ => k == 0
  | .flt _ _ _ _ => true
/-- Where the reader goes on. -/
def Out.goes : Out → Nat
  | .tok _ _ _ _ j => j
  | .flt _ _ _ _ => 0
theorem Out.adv {s : ByteArray} {i : Nat} (hi : i ≤ s.size) (h : (nextOut s i).last = false) : i < (nextOut s i).goes ∧ (nextOut s i).goes ≤ s.size := by
  cases ho : nextOut s i with
  | tok k ms li co j =>
    rw [ho] at h
    exact next_adv hi ho (fun e => by have h2 : (k == 0) = false := h; rw [e] at h2; cases h2)
  | flt c li co wd => rw [ho] at h; cases h
/-- All that is told from a place on. -/
def tolds (s : ByteArray) : Nat → Nat → List Out
  | 0, _ => []
  | n + 1, i => nextOut s i :: (if (nextOut s i).last = true then [] else tolds s n (nextOut s i).goes)
end Go.Proofs.YtjiolinhkadoaaaDoor
