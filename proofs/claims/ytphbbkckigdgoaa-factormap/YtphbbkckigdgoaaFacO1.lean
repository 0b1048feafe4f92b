/-
  Proved here: slices.Equal at int, ring Ints' methods, ring.Sum at int; package factor's placeOf, stride at int.
-/
import Derived.Test.YtphbbkckigdgoaaFacH
import Derived.Test.YtphbbkckigdgoaaFacNone
import Derived.Test.YtphbbkckigdgoaaFacAI
namespace Go.Proofs.Ytphbbkckigdgoaa
set_option linter.unusedVariables false
open Go.RowKit Go.Shelf Go.Lib Go.Sort
theorem mIntsSameF (w : World) : (Go.method 185 41 (.agg #[]) "Same").run Try.prog w = .ok (44, .agg #[]) w := by kernel_rfl
theorem entIntsSameF : ∀ args w, (callFunc 44 args).run Try.prog w = .ok (.enter 44 args) w := enters_of Try.func44 (by kernel_rfl) rfl
theorem nlIntsSameF (w : World) : (nilAhead 185 41 (.agg #[]) "Same").run Try.prog w = .ok (some false) w := by kernel_rfl
theorem intsSameF (p q : Int) (w : World) : Calls Try.prog 44 #[.agg #[], .int .i64 p, .int .i64 q] w fun e w' => e = .returned (.bool (p == q)) ∧ Below w.heap.size w w' := by
  go_enter Try.func44, Try.ntmps44
  go_wp2
  go_ret
  exact ⟨rfl, belowB _ _⟩
end Go.Proofs.Ytphbbkckigdgoaa
