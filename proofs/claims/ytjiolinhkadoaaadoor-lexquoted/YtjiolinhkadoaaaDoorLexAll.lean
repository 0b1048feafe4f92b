/-
  Proved here: all that is told of a text, as one list that goes on from word to word.
-/
import Derived.Test.YtjiolinhkadoaaaDoorLexU
namespace Go.Proofs.YtjiolinhkadoaaaDoor
open Go.RowKit

theorem tolds_fuel (s : ByteArray) : ∀ n m i, i ≤ s.size → s.size - i < n → s.size - i < m → tolds s n i = tolds s m i
  | 0, _, _, _, h, _ => absurd h (Nat.not_lt_zero _)
  | _, 0, _, _, _, h => absurd h (Nat.not_lt_zero _)
  | n + 1, m + 1, i, hi, h1, h2 => by
    show nextOut s i :: _ = nextOut s i :: _
    congr 1
    by_cases hl : (nextOut s i).last = true
    · rw [if_pos hl, if_pos hl]
    · rw [if_neg hl, if_neg hl]
      have ha := Out.adv hi (Bool.eq_false_iff.2 hl)
      exact tolds_fuel s n m _ ha.2 (by omega) (by omega)
/-- All that is told from a place on. -/
def allF (s : ByteArray) (i : Nat) : List Out := tolds s (s.size + 1) i
theorem allF_eq {s : ByteArray} {i : Nat} (hi : i ≤ s.size) : allF s i = nextOut s i :: (if (nextOut s i).last = true then [] else allF s (nextOut s i).goes) := by
  show nextOut s i :: _ = nextOut s i :: _
  congr 1
  by_cases hl : (nextOut s i).last = true
  · rw [if_pos hl, if_pos hl]
  · rw [if_neg hl, if_neg hl]
    have ha := Out.adv hi (Bool.eq_false_iff.2 hl)
    exact tolds_fuel s _ _ _ ha.2 (by omega) (by omega)
theorem allF_last {s : ByteArray} {i : Nat} (hi : i ≤ s.size) (h : (nextOut s i).last = true) : allF s i = [nextOut s i] := by rw [allF_eq hi, if_pos h]
theorem allF_goes {s : ByteArray} {i : Nat} (hi : i ≤ s.size) (h : (nextOut s i).last = false) : allF s i = nextOut s i :: allF s (nextOut s i).goes := by rw [allF_eq hi, if_neg (by rw [h]; exact Bool.false_ne_true)]
/-- Is it a word? -/
def Out.isTok : Out → Bool
  | .tok _ _ _ _ _ => true
  | .flt _ _ _ _ => false
/-- Words told one by one, up to a place. -/
structure Pre (s : ByteArray) (i : Nat) (outs : List Out) : Prop where
  le : i ≤ s.size
  all : allF s 0 = outs ++ allF s i
  toks : ∀ o ∈ outs, o.isTok = true
  len : outs.length ≤ i
theorem Pre.nil (s : ByteArray) : Pre s 0 [] := ⟨Nat.zero_le _, rfl, fun _ h => absurd h List.not_mem_nil, Nat.le_refl _⟩
theorem Pre.step {s : ByteArray} {i : Nat} {outs : List Out} (h : Pre s i outs) (hl : (nextOut s i).last = false) : Pre s (nextOut s i).goes (outs ++ [nextOut s i]) := by
  have ha := Out.adv h.le hl
  refine ⟨ha.2, ?_, ?_, ?_⟩
  · rw [h.all, allF_goes h.le hl, List.append_assoc]; rfl
  · intro o ho
    rcases List.mem_append.1 ho with h1 | h1
    · exact h.toks o h1
    · rw [List.mem_singleton.1 h1]
      cases hn : nextOut s i with
      | tok k ms li co j => rfl
      | flt c li co wd => rw [hn] at hl; cases hl
  · have := h.len; rw [List.length_append, List.length_singleton]; omega
theorem Pre.last {s : ByteArray} {i : Nat} {outs : List Out} (h : Pre s i outs) (hl : (nextOut s i).last = true) : allF s 0 = outs ++ [nextOut s i] := by rw [h.all, allF_last h.le hl]
/-- The fault that is told, if one is. -/
def fltOf : List Out → Option (Int × Nat × Nat × ByteArray)
  | [] => none
  | .flt c li co wd :: _ => some (c, li, co, wd)
  | .tok _ _ _ _ _ :: r => fltOf r
theorem fltOf_toks : ∀ (outs r : List Out), (∀ o ∈ outs, o.isTok = true) → fltOf (outs ++ r) = fltOf r
  | [], _, _ => rfl
  | .tok _ _ _ _ _ :: l, r, h => fltOf_toks l r (fun o ho => h o (List.mem_cons_of_mem _ ho))
  | .flt _ _ _ _ :: l, r, h => absurd (h _ List.mem_cons_self) (fun h => by cases h)
theorem fltOf_none : ∀ (l : List Out), fltOf l = none → ∀ o ∈ l, o.isTok = true
  | [], _, _, h => absurd h List.not_mem_nil
  | .tok _ _ _ _ _ :: l, h, o, ho => by
    rcases List.mem_cons.1 ho with rfl | h1
    · rfl
    · exact fltOf_none l h o h1
  | .flt _ _ _ _ :: l, h, _, _ => by cases h
end Go.Proofs.YtjiolinhkadoaaaDoor
