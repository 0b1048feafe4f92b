/-
  Proved here: what the law's told answers of no error.
-/
import Derived.Test.YtjiolinhkadoaaaDoorLexG
namespace Go.Proofs.YtjiolinhkadoaaaDoor
open Go.RowKit
theorem FtC.thaw {w : World} {g : Nat} {a b c d : Value} (h : FtC w g a b c d) (k : Nat) : w.frozen? ⟨g, k, none⟩ = false := frozen_of_row w g k _ _ h
theorem FtC.write {w : World} {g : Nat} {a b c d : Value} (h : FtC w g a b c d) (a2 b2 c2 d2 : Value) : FtC ((((w.setCell ⟨g, 0, none⟩ a2).setCell ⟨g, 1, none⟩ b2).setCell ⟨g, 2, none⟩ c2).setCell ⟨g, 3, none⟩ d2) g a2 b2 c2 d2 := by
  unfold FtC
  have h1 := heap_setCell_same w g 0 _ _ a2 h
  have h2 := heap_setCell_same _ g 1 _ _ b2 h1
  have h3 := heap_setCell_same _ g 2 _ _ c2 h2
  have h4 := heap_setCell_same _ g 3 _ _ d2 h3
  rw [h4]
  rfl
set_option maxRecDepth 100000 in
set_option maxHeartbeats 1600000 in
theorem told_nil (w : World) :
    Calls Tryd.prog 12 #[.nilIface] w fun e w' => e = .returned (.tuple #[.agg #[.int .i64 0, .int .i64 0, .int .i64 0, .string ⟨#[]⟩], .bool true]) ∧ Below w.heap.size w w' := by
  obtain ⟨W1, hW1⟩ : ∃ W1, W1 = w.alloc (.cells #[.int .i64 0, .int .i64 0, .int .i64 0, .string ⟨#[]⟩] 26) := ⟨_, rfl⟩
  have hf : FtC W1 w.heap.size (.int .i64 0) (.int .i64 0) (.int .i64 0) (.string ⟨#[]⟩) := by rw [hW1]; exact ftc_new _ rfl
  have hb1 : Below w.heap.size w W1 := by rw [hW1]; exact belowA1 w _
  have hWr : w.alloc (.cells #[.int .i64 0, .int .i64 0, .int .i64 0, .string ⟨#[]⟩] 26) = W1 := hW1.symm
  obtain ⟨c0, c1, c2, c3⟩ := hf.cells
  have f0 := hf.thaw 0
  have f1 := hf.thaw 1
  have f2 := hf.thaw 2
  have f3 := hf.thaw 3
  have HW : Hid (FtC ((((W1.setCell ⟨w.heap.size, 0, none⟩ (.int .i64 0)).setCell ⟨w.heap.size, 1, none⟩ (.int .i64 0)).setCell ⟨w.heap.size, 2, none⟩ (.int .i64 0)).setCell ⟨w.heap.size, 3, none⟩ (.string ⟨#[]⟩)) w.heap.size (.int .i64 0) (.int .i64 0) (.int .i64 0) (.string ⟨#[]⟩)) := hf.write _ _ _ _
  have HB : Hid (Below w.heap.size w ((((W1.setCell ⟨w.heap.size, 0, none⟩ (.int .i64 0)).setCell ⟨w.heap.size, 1, none⟩ (.int .i64 0)).setCell ⟨w.heap.size, 2, none⟩ (.int .i64 0)).setCell ⟨w.heap.size, 3, none⟩ (.string ⟨#[]⟩))) := (((hb1.setCell (p := ⟨w.heap.size, 0, none⟩) (Nat.le_refl _) _).setCell (p := ⟨w.heap.size, 1, none⟩) (Nat.le_refl _) _).setCell (p := ⟨w.heap.size, 2, none⟩) (Nat.le_refl _) _).setCell (p := ⟨w.heap.size, 3, none⟩) (Nat.le_refl _) _
  clear hW1 hf hb1
  go_enter Tryd.func12, Tryd.ntmps12
  go_wp2_with fail
  (try simp only [Exit.inBlock, Exit.then])
  exact bodyPost_ret (results_ctx (p := 2) (u := 3) rfl _ _ w.heap.size 26 _ (0, 0) _ rfl HW.out Tryd.underlying26 rfl (by kernel_rfl)) rfl ⟨rfl, HB.out⟩
end Go.Proofs.YtjiolinhkadoaaaDoor
