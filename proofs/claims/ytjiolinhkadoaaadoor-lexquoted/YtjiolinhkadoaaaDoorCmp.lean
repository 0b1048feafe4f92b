/-
  Proved here: what Cmp answers.
-/
import Derived.Test.YtjiolinhkadoaaaDoorTrim
import Derived.Test.YtjiolinhkadoaaaDoorMath2
namespace Go.Proofs.YtjiolinhkadoaaaDoor
open Go.RowKit

theorem Num.ao {w : World} {v : Value} {xs : List Nat} (h : Num w v xs) : ∃ ao cap, v = .slice ao xs.length cap ∧ xs.length ≤ cap ∧ cap ≤ 9223372036854775807 := by
  obtain ⟨_, ao, cap, h1, h2, h3, _⟩ := h
  exact ⟨ao, cap, h1, h2, h3⟩

end Go.Proofs.YtjiolinhkadoaaaDoor
