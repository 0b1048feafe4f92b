/-
  Proved here: Names returns true, and writes nothing that was there.
-/
import Derived.Test.YtboohobkjhianaeDoorRows
import Derived.WalkKit
import Derived.WalkSpells
import Derived.WalkLawsBesides
import Derived.Below
import Derived.BigQuiet
import Derived.Deep.QuietTactic
namespace Go.Proofs.YtboohobkjhianaeDoor
open Go.RowKit

set_option maxRecDepth 100000 in
set_option maxHeartbeats 8000000 in
theorem itoa_3 (w : World) : Calls Tryd.prog 7 #[.int .i64 3] w fun e w' => e = .returned (.string ⟨#[51]⟩) ∧ w' = w := by
  go_enter Tryd.func7, Tryd.ntmps7
  go_wp2
  go_ret
  exact ⟨rfl, rfl⟩
set_option maxRecDepth 100000 in
set_option maxHeartbeats 8000000 in
theorem itoa_7 (w : World) : Calls Tryd.prog 7 #[.int .i64 7] w fun e w' => e = .returned (.string ⟨#[55]⟩) ∧ w' = w := by
  go_enter Tryd.func7, Tryd.ntmps7
  go_wp2
  go_ret
  exact ⟨rfl, rfl⟩
set_option maxRecDepth 100000 in
set_option maxHeartbeats 8000000 in
theorem errno_30 (w : World) : Calls Tryd.prog 5 #[.int .i64 30] w fun e w' => e = .returned (.string ⟨#[101, 114, 114, 111, 114, 32, 51, 48]⟩) ∧ w' = w := by
  go_enter Tryd.func5, Tryd.ntmps5
  go_wp2
  go_ret
  exact ⟨rfl, rfl⟩
set_option maxRecDepth 100000 in
set_option maxHeartbeats 8000000 in
theorem errno_46 (w : World) : Calls Tryd.prog 5 #[.int .i64 46] w fun e w' => e = .returned (.string ⟨#[101, 114, 114, 111, 114, 32, 52, 54]⟩) ∧ w' = w := by
  go_enter Tryd.func5, Tryd.ntmps5
  go_wp2
  go_ret
  exact ⟨rfl, rfl⟩

theorem heap_drewN' (w : World) (n : Nat) : (w.drewN n).heap = w.heap := by
  induction n with
  | zero => rfl
  | succ n ih => first | exact ih | simp [World.drewN]

set_option maxRecDepth 100000 in
set_option maxHeartbeats 8000000 in
theorem fault_text (w : World) (g : Nat) (c0 : w.cell? ⟨g, 0, none⟩ = some (.int .i64 30)) (c1 : w.cell? ⟨g, 1, none⟩ = some (.int .i64 3)) (c2 : w.cell? ⟨g, 2, none⟩ = some (.int .i64 7)) (c3 : w.cell? ⟨g, 3, none⟩ = some (.string ⟨#[120]⟩)) :
    Calls Tryd.prog 4 #[.pointer (some ⟨g, 0, none⟩)] w fun e w' => e = .returned (.string ⟨#[51, 58, 55, 58, 32, 101, 114, 114, 111, 114, 32, 51, 48, 58, 32, 120]⟩) ∧ ∃ q, w' = w.drewN q := by
  go_enter Tryd.func4, Tryd.ntmps4
  go_wp2
  go_quiet (first | (go_at_call 7; exact Calls.quiet_of_same (itoa_3 _)) | (go_at_call 7; exact Calls.quiet_of_same (itoa_7 _)) | (go_at_call 5; exact Calls.quiet_of_same (errno_30 _)))
  go_wp2
  go_ret
  exact ⟨rfl, _, rfl⟩

theorem eq_iface (w : World) : (binOp BinOp.eql 27 (.iface 22 (.int .i64 30)) (.iface 22 (.int .i64 30))).run Tryd.prog w = .ok (.bool true) w := by
  first | kernel_rfl | rfl | (simp [binOp, go_sem]; done)
set_option maxRecDepth 100000 in
set_option maxHeartbeats 8000000 in
theorem names_top (w : World) : Calls Tryd.prog 3 #[] w fun e w' => e = .returned (.bool true) ∧ Below w.heap.size w w' := by
  go_enter Tryd.func3, Tryd.ntmps3
  have c0 : (w.alloc (.cells #[.int .i64 30, .int .i64 3, .int .i64 7, .string ⟨#[120]⟩] 24)).cell? ⟨w.heap.size, 0, none⟩ = some (.int .i64 30) := by rw [World.cell?_alloc_at (hn := rfl)]; rfl
  have c1 : (w.alloc (.cells #[.int .i64 30, .int .i64 3, .int .i64 7, .string ⟨#[120]⟩] 24)).cell? ⟨w.heap.size, 1, none⟩ = some (.int .i64 3) := by rw [World.cell?_alloc_at (hn := rfl)]; rfl
  have c2 : (w.alloc (.cells #[.int .i64 30, .int .i64 3, .int .i64 7, .string ⟨#[120]⟩] 24)).cell? ⟨w.heap.size, 2, none⟩ = some (.int .i64 7) := by rw [World.cell?_alloc_at (hn := rfl)]; rfl
  have c3 : (w.alloc (.cells #[.int .i64 30, .int .i64 3, .int .i64 7, .string ⟨#[120]⟩] 24)).cell? ⟨w.heap.size, 3, none⟩ = some (.string ⟨#[120]⟩) := by rw [World.cell?_alloc_at (hn := rfl)]; rfl
  have hb : Below w.heap.size w (w.alloc (.cells #[.int .i64 30, .int .i64 3, .int .i64 7, .string ⟨#[120]⟩] 24)) := (Below.refl _ _).alloc (Nat.le_refl _) _
  go_wp2_with fail
  generalize w.alloc (.cells #[.int .i64 30, .int .i64 3, .int .i64 7, .string ⟨#[120]⟩] 24) = w1 at *
  refine (fault_text _ _ c0 c1 c2 c3).mono ?_
  rintro e w2 ⟨rfl, q, hq⟩
  have d0 : w2.cell? ⟨w.heap.size, 0, none⟩ = some (.int .i64 30) := by rw [← c0, hq]; exact World.cell?_of_block (by rw [heap_drewN'])
  have hb2 : Below w.heap.size w w2 := by rw [hq]; exact below_drewN hb q
  clear c0 c1 c2 c3 hb hq
  go_wp2_with fail
  refine (errno_46 _).mono ?_
  rintro e w3 ⟨rfl, rfl⟩
  have HE : Hid (Below w.heap.size w w3) := hb2
  clear hb2
  have heq := eq_iface w3
  go_wp2
  go_ret
  exact ⟨rfl, HE.out⟩
end Go.Proofs.YtboohobkjhianaeDoor
