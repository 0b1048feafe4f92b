/-
  Proved here: what Pow answers of powers that are none.
-/
import Derived.Test.YtboohobkjhianaaDoorPow
namespace Go.Proofs.YtboohobkjhianaaDoor
open Go.RowKit

set_option maxRecDepth 100000 in
theorem pow_bad (v : Value) (n : Int) (w : World) (hn : n < 0 ∨ 1024 < n) :
    Calls Tryd.prog 4 #[v, .int .i64 n] w fun e w' => e = .returned (.tuple #[.slice none 0 0, .int .i64 3]) ∧ w' = w := by
  rcases hn with hn | hn
  · have d1 : decide (n < 0) = true := decide_eq_true hn
    go_enter Tryd.func4, Tryd.ntmps4
    go_wp2
    go_ret2
    exact ⟨rfl, rfl⟩
  · have h1 : ¬ n < 0 := by omega
    have d1 : decide (n < 0) = false := decide_eq_false h1
    go_enter Tryd.func4, Tryd.ntmps4
    go_wp2
    go_ret2
    exact ⟨rfl, rfl⟩
end Go.Proofs.YtboohobkjhianaaDoor
