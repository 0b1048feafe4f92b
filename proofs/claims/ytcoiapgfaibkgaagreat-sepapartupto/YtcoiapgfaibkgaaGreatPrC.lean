/-
  Proved here: package prune's Barren and Kept.
-/
import Derived.Test.YtcoiapgfaibkgaaGreatPrBAll
import Derived.Test.YtcoiapgfaibkgaaGreatSpWAll
import Derived.Laws.EntriesVeiled
namespace Go.Proofs.YtcoiapgfaibkgaaGreat
set_option linter.unusedVariables false
open Go.RowKit Go.Shelf Go.Sort Go.Lib
/-- What is answered: an error, or the points of a kind, rising. -/
def PrE (B : Nat) (P : List (List Int)) (n : Nat) (a G : List Int) (Q : Int → Prop) (w' : World) (e : Ending) : Prop :=
  ∃ ao k cap L, e = .returned (.tuple #[.slice ao k cap, .int .i64 (nsE P n (a ++ G))]) ∧ OG (Value.int .i64) B 3 w' (.slice ao k cap) L ∧ (nsE P n (a ++ G) ≠ 0 → ao = none ∧ k = 0 ∧ cap = 0 ∧ L = []) ∧ (nsE P n (a ++ G) = 0 → Rise L ∧ ∀ x, x ∈ L ↔ Q x)
/-- What is barren. -/
def BaP (P : List (List Int)) (n : Nat) (a G : List Int) (x : Int) : Prop := ∃ k : Nat, x = (k : Int) ∧ k < n ∧ ¬ RchP P (a ++ G) x
/-- Where a flag is set, something holds. -/
def ImpB (b : Bool) (X : Prop) : Prop := b = true → X
/-- A point's table tells something of what is asked. -/
def TabM (P : List (List Int)) (a G : List Int) (v : Int) : Prop := ∃ A, AbvP P G A ∧ TabP P P.length G A a v
/-- Which points are kept. -/
def KpP (P : List (List Int)) (n : Nat) (a G : List Int) (b p : Bool) (x : Int) : Prop := ∃ k : Nat, x = (k : Int) ∧ k < n ∧ (b = true → RchP P (a ++ G) x) ∧ (p = true → TabM P a G x)
end Go.Proofs.YtcoiapgfaibkgaaGreat
