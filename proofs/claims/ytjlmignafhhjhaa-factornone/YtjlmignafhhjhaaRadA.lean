/-
  Proved here: package radix's Count, and what it asks of package slices, at the three types.
-/
import Derived.Test.YtjlmignafhhjhaaRows
import Derived.Test.YtjlmignafhhjhaaRadMath
import Derived.WalkKit
import Derived.WalkSpells
import Derived.WalkLawsBesides
import Derived.Below
import Derived.BigQuiet
namespace Go.Proofs.Ytjlmignafhhjhaa
open Go.RowKit

/-- A row of numbers of a kind that can be read. -/
def RK (k : IntKind) (w : World) (v : Value) (zs : List Int) : Prop :=
  ∃ ao cap, v = .slice ao zs.length cap ∧ zs.length ≤ cap ∧ cap ≤ maxLen ∧ (ao = none → cap = 0) ∧ (∀ i, i < zs.length → k.min ≤ zs.getD i 0 ∧ zs.getD i 0 ≤ k.max) ∧
    ∀ i, i < zs.length → ∃ g o, ao = some ⟨g, o, none⟩ ∧ w.cell? ⟨g, o + i, none⟩ = some (.int k (zs.getD i 0))
theorem RK.nil (k : IntKind) (w : World) : RK k w (.slice none 0 0) [] := ⟨none, 0, rfl, Nat.le_refl _, Nat.zero_le _, fun _ => rfl, fun _ h => absurd h (Nat.not_lt_zero _), fun _ h => absurd h (Nat.not_lt_zero _)⟩
end Go.Proofs.Ytjlmignafhhjhaa
