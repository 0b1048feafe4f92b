/-
  Proved here: RadixNames answers true.
-/
import Derived.Test.YtfanomoijjjcmaaRadixErrorsWalk
namespace Go.Proofs.Ytfanomoijjjcmaa
open Go.RowKit Go.Shelf

theorem ctN1 (w : World) : Calls Try.prog 9 #[.slice (some ⟨w.heap.size, 0, none⟩) 1 1] (w.alloc (.cells #[.int .i64 2147483647] 3)) fun e w' =>
    e = .returned (.tuple #[.int .i64 2147483647, .int .i64 0]) ∧ Below w.heap.size w w' := ctR w [2147483647] (inK_of (by decide)) (by decide)
theorem ctN2 (w : World) : Calls Try.prog 9 #[.slice (some ⟨w.heap.size, 0, none⟩) 2 2] (w.alloc (.cells #[.int .i64 65536, .int .i64 32768] 3)) fun e w' =>
    e = .returned (.tuple #[.int .i64 0, .int .i64 4]) ∧ Below w.heap.size w w' := ctR w [65536, 32768] (inK_of (by decide)) (by decide)
theorem ctN3 (w : World) : Calls Try.prog 9 #[.slice (some ⟨w.heap.size, 0, none⟩) 4 4] (w.alloc (.cells #[.int .i64 2147483647, .int .i64 2147483647, .int .i64 2147483647, .int .i64 0] 3)) fun e w' =>
    e = .returned (.tuple #[.int .i64 0, .int .i64 0]) ∧ Below w.heap.size w w' := ctR w [2147483647, 2147483647, 2147483647, 0] (inK_of (by decide)) (by decide)
theorem ctN4 (w : World) : Calls Try.prog 9 #[.slice none 0 0] w fun e w' =>
    e = .returned (.tuple #[.int .i64 1, .int .i64 0]) ∧ Below w.heap.size w w' := by
  refine (countI _ [] _ (RK.nil _ _)).mono ?_
  rintro e w' ⟨h, q, rfl⟩
  exact ⟨h, below_drewR (Below.refl _ _) q⟩
set_option maxRecDepth 100000 in
set_option maxHeartbeats 1600000 in
theorem radixNames_top (w : World) : Calls Try.prog 3 #[] w fun e w' => e = .returned (.bool true) ∧ Below w.heap.size w w' := by
  have h1 := ctN1
  have h2 := ctN2
  have h3 := ctN3
  have h4 := ctN4
  have h5 := aliveR
  go_enter Try.func3, Try.ntmps3
  go_wp2_with fail
  refine (h1 w).mono ?_
  rintro e w1 ⟨rfl, b1⟩
  go_wp2_with fail
  refine (h2 w1).mono ?_
  rintro e w2 ⟨rfl, b2⟩
  go_wp2_with fail
  refine (h3 w2).mono ?_
  rintro e w3 ⟨rfl, b3⟩
  go_wp2_with fail
  refine (h4 w3).mono ?_
  rintro e w4 ⟨rfl, b4⟩
  have B4 := bstepR (bstepR (bstepR b1 b2) b3) b4
  clear h1 h2 h3 h4 b1 b2 b3 b4
  go_wp2_with fail
  refine (h5 w4).mono ?_
  rintro e w5 ⟨rfl, b5⟩
  have HB : Hid (Below w.heap.size w w5) := bstepR B4 b5
  clear B4 b5 h5
  go_wp2
  go_ret
  exact ⟨rfl, HB.out⟩
end Go.Proofs.Ytfanomoijjjcmaa
