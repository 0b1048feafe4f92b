/-
  Proved here: RadixErrors answers true.
-/
import Derived.Test.YtfanomoijjjcmaaRadE
namespace Go.Proofs.Ytfanomoijjjcmaa
open Go.RowKit Go.Shelf

theorem atR1 (w : World) : Calls Try.prog 11 #[.slice (some ⟨w.heap.size, 0, none⟩) 1 1, .slice none 0 0] (w.alloc (.cells #[.int .i64 (-1)] 3)) fun e w' =>
    e = .returned (.tuple #[.int .i64 0, .int .i64 3]) ∧ Below w.heap.size w w' := by
  refine (atI _ _ [-1] [] _ (RK.lit w 3 [-1] (inK_of (by decide)) (by decide)) (RK.nil _ _)).mono ?_
  rintro e w' ⟨h, q, rfl⟩
  exact ⟨h, below_drewR (belowA _ _) q⟩
theorem atR2 (w : World) : Calls Try.prog 11 #[.slice (some ⟨w.heap.size, 0, none⟩) 2 2, .slice (some ⟨w.heap.size + 1, 0, none⟩) 1 1] ((w.alloc (.cells #[.int .i64 2, .int .i64 3] 3)).alloc (.cells #[.int .i64 9] 3)) fun e w' =>
    e = .returned (.tuple #[.int .i64 0, .int .i64 60]) ∧ Below w.heap.size w w' := by
  have h1 : RK .i64 (w.alloc (.cells #[.int .i64 2, .int .i64 3] 3)) (.slice (some ⟨w.heap.size, 0, none⟩) 2 2) [2, 3] := RK.lit w 3 [2, 3] (inK_of (by decide)) (by decide)
  have h2 : RK .i64 ((w.alloc (.cells #[.int .i64 2, .int .i64 3] 3)).alloc (.cells #[.int .i64 9] 3)) (.slice (some ⟨w.heap.size + 1, 0, none⟩) 1 1) [9] := by
    have := RK.lit (w.alloc (.cells #[.int .i64 2, .int .i64 3] 3)) 3 [9] (k := .i64) (inK_of (by decide)) (by decide)
    rw [World.size_alloc] at this; exact this
  refine (atI _ _ [2, 3] [9] _ (h1.alloc _) h2).mono ?_
  rintro e w' ⟨h, q, rfl⟩
  exact ⟨h, below_drewR (bstepR (belowA _ _) (belowA _ _)) q⟩
theorem dgR3 (w : World) : Calls Try.prog 12 #[.slice (some ⟨w.heap.size, 0, none⟩) 2 2, .int .i64 (-1)] (w.alloc (.cells #[.int .i64 1099511627776, .int .i64 2] 3)) fun e w' =>
    e = .returned (.tuple #[.slice none 0 0, .int .i64 4]) ∧ Below w.heap.size w w' := by
  refine (digitsI _ [1099511627776, 2] (-1) _ (RK.lit w 3 [1099511627776, 2] (inK_of (by decide)) (by decide)) (by decide) (by decide) (by decide)).mono ?_
  intro e w' h
  obtain ⟨h1, h2⟩ := h.no (by decide)
  exact ⟨h1, bstepR (belowA _ _) h2⟩
theorem ctR (w : World) (zs : List Int) (hz : inK .i64 zs) (hm : zs.length ≤ maxLen) : Calls Try.prog 9 #[.slice (some ⟨w.heap.size, 0, none⟩) zs.length zs.length] (w.alloc (.cells (zs.map (Value.int .i64)).toArray 3)) fun e w' =>
    e = .returned (.tuple #[.int .i64 (cntN zs), .int .i64 (cntE zs)]) ∧ Below w.heap.size w w' := by
  refine (countI _ zs _ (RK.lit w 3 zs hz hm)).mono ?_
  rintro e w' ⟨h, q, rfl⟩
  exact ⟨h, below_drewR (belowA _ _) q⟩
theorem ctR4 (w : World) : Calls Try.prog 9 #[.slice (some ⟨w.heap.size, 0, none⟩) 2 2] (w.alloc (.cells #[.int .i64 1099511627776, .int .i64 (-1)] 3)) fun e w' =>
    e = .returned (.tuple #[.int .i64 0, .int .i64 3]) ∧ Below w.heap.size w w' := ctR w [1099511627776, -1] (inK_of (by decide)) (by decide)
set_option maxRecDepth 100000 in
set_option maxHeartbeats 1600000 in
theorem radixErrors_top (w : World) : Calls Try.prog 4 #[] w fun e w' => e = .returned (.bool true) ∧ Below w.heap.size w w' := by
  have h1 := atR1
  have h2 := atR2
  have h3 := dgR3
  have h4 := ctR4
  go_enter Try.func4, Try.ntmps4
  go_wp2_with fail
  refine (h1 w).mono ?_
  rintro e w1 ⟨rfl, b1⟩
  go_wp2_with fail
  refine (h2 w1).mono ?_
  rintro e w2 ⟨rfl, b2⟩
  go_wp2_with fail
  refine (h3 w2).mono ?_
  rintro e w3 ⟨rfl, b3⟩
  go_wp2_with fail
  refine (h4 w3).mono ?_
  rintro e w4 ⟨rfl, b4⟩
  have HB : Hid (Below w.heap.size w w4) := bstepR (bstepR (bstepR b1 b2) b3) b4
  clear h1 h2 h3 h4 b1 b2 b3 b4
  go_wp2
  go_ret
  exact ⟨rfl, HB.out⟩
end Go.Proofs.Ytfanomoijjjcmaa
