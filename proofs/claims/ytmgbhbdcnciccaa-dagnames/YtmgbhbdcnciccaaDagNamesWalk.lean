/-
  Proved here: the law on package dag's numbers and its chapter's points, walked.
-/
import Derived.Test.YtmgbhbdcnciccaaDagAl2
namespace Go.Proofs.Ytmgbhbdcnciccaa
set_option linter.unusedVariables false
open Go.RowKit
set_option maxRecDepth 100000 in
set_option maxHeartbeats 3200000 in
theorem dagNames_top (w : World) : Calls Try.prog 3 #[] w fun e w' => e = .returned (.bool true) ∧ Below w.heap.size w w' := by
  have CA : Hid _ := aliveD w
  go_enter Try.func3, Try.ntmps3
  go_wp2_with fail
  refine Calls.mono CA.out ?_
  rintro e y ⟨rfl, hy⟩
  have HB : Hid (Below w.heap.size w y) := hy
  clear CA hy
  go_wp2
  go_ret
  exact ⟨rfl, HB.out⟩
end Go.Proofs.Ytmgbhbdcnciccaa
