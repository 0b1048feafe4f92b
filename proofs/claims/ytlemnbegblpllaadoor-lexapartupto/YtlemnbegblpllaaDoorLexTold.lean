/-
  Proved here: what the law's told answers of a fault.
-/
import Derived.Test.YtlemnbegblpllaaDoorLexAs
namespace Go.Proofs.YtlemnbegblpllaaDoor
open Go.RowKit
set_option maxRecDepth 100000 in
set_option maxHeartbeats 3200000 in
theorem told_flt (b : Nat) (c li co : Int) (wd : ByteArray) (w : World) (hF : FtC w b (.int .i64 c) (.int .i64 li) (.int .i64 co) (.string wd)) (hc : c ≠ 0) (hg : ErrT w) :
    Calls Tryd.prog 12 #[.iface 50 (.pointer (some ⟨b, 0, none⟩))] w fun e w' => e = .returned (.tuple #[.agg #[.int .i64 c, .int .i64 li, .int .i64 co, .string wd], .bool true]) ∧ Below w.heap.size w w' := by
  obtain ⟨W1, hW1⟩ : ∃ W1, W1 = w.alloc (.cells #[.int .i64 0, .int .i64 0, .int .i64 0, .string ⟨#[]⟩] 26) := ⟨_, rfl⟩
  have hz1 : W1.heap.size = w.heap.size + 1 := by rw [hW1]; simp
  obtain ⟨W2, hW2⟩ : ∃ W2, W2 = W1.alloc (.cells #[.pointer none] 50) := ⟨_, rfl⟩
  have hz2 : W2.heap.size = w.heap.size + 2 := by rw [hW2]; simp [hz1]
  have b1 : Below w.heap.size w W1 := by rw [hW1]; exact belowA1 w _
  have b12 : Below W1.heap.size W1 W2 := by rw [hW2]; exact belowA1 _ _
  have b2 : Below w.heap.size w W2 := bstep1 b1 b12
  have hf1 : FtC W1 w.heap.size (.int .i64 0) (.int .i64 0) (.int .i64 0) (.string ⟨#[]⟩) := by rw [hW1]; exact ftc_new _ rfl
  have hf2 := hf1.below b12
  have hF2 := hF.below b2
  have ht : W2.cell? ⟨w.heap.size + 1, 0, none⟩ = some (.pointer none) := by rw [hW2, ← hz1]; simp
  have hfz : W2.frozen? ⟨w.heap.size + 1, 0, none⟩ = false := by
    rw [hW2, ← hz1]; exact frozen_of_row _ W1.heap.size 0 _ _ (heap_alloc_new W1 _)
  have has := as_hit ⟨b, 0, none⟩ ⟨w.heap.size + 1, 0, none⟩ _ W2 (keepB2 b2 hg) ht hfz
  have hbl : b < w.heap.size := hF.lt
  have HW1 : Hid (w.alloc (.cells #[.int .i64 0, .int .i64 0, .int .i64 0, .string ⟨#[]⟩] 26) = W1) := hW1.symm
  have HW2 : Hid (W1.alloc (.cells #[.pointer none] 50) = W2) := hW2.symm
  clear hW1 hW2
  go_enter Tryd.func12, Tryd.ntmps12
  go_wp2_with fail
  rw [HW1.out, HW2.out]
  refine has.mono ?_
  rintro e w3 ⟨rfl, hw3⟩
  have b3 : Below w.heap.size w w3 ∧ FtC w3 b (.int .i64 c) (.int .i64 li) (.int .i64 co) (.string wd) ∧ FtC w3 w.heap.size (.int .i64 0) (.int .i64 0) (.int .i64 0) (.string ⟨#[]⟩) ∧ w3.cell? ⟨w.heap.size + 1, 0, none⟩ = some (.pointer (some ⟨b, 0, none⟩)) := by
    rw [hw3]
    have q1 := belowA1 W2 (.cells #[.pointer (some ⟨w.heap.size + 1, 0, none⟩)] 52)
    generalize hX1 : W2.alloc (.cells #[.pointer (some ⟨w.heap.size + 1, 0, none⟩)] 52) = X1 at *
    have q2 := bstep1 q1 (belowA1 X1 (.cells #[.pointer (some ⟨2, 52, none⟩), .pointer (some ⟨W2.heap.size, 0, none⟩), .int .u64 150] 70))
    generalize hX2 : X1.alloc (.cells #[.pointer (some ⟨2, 52, none⟩), .pointer (some ⟨W2.heap.size, 0, none⟩), .int .u64 150] 70) = X2 at *
    have q3 := bstep1 q2 (belowA1 X2 (.cells #[.pointer (some ⟨2, 52, none⟩), .pointer (some ⟨W2.heap.size, 0, none⟩), .int .u64 150] 70))
    generalize hX3 : X2.alloc (.cells #[.pointer (some ⟨2, 52, none⟩), .pointer (some ⟨W2.heap.size, 0, none⟩), .int .u64 150] 70) = X3 at *
    have q4 := bstep1 q3 (belowA1 X3 (.cells #[.pointer (some ⟨b, 0, none⟩)] 50))
    generalize hX4 : X3.alloc (.cells #[.pointer (some ⟨b, 0, none⟩)] 50) = X4 at *
    refine ⟨(bstep1 b2 q4).setCell (p := ⟨w.heap.size + 1, 0, none⟩) (by simp) _, (hF2.below q4).set (p := ⟨w.heap.size + 1, 0, none⟩) (by simp; omega) _, (hf2.below q4).set (p := ⟨w.heap.size + 1, 0, none⟩) (by simp) _, ?_⟩
    exact World.cell?_setCell_same' _ _ _ (by rw [keepB2 q4 ht]; rfl)
  clear has hF hg hf1 hf2 hF2 ht hfz b1 b12 b2 HW1 HW2 hz1 hz2 hw3
  obtain ⟨b3, hF3, hf3, hc3⟩ := b3
  have hcz : (c == 0) = false := beq_eq_false_iff_ne.2 hc
  obtain ⟨a0, a1, a2, a3⟩ := hF3.cells
  obtain ⟨c0, c1, c2, c3⟩ := hf3.cells
  have f0 := hf3.thaw 0
  have f1 := hf3.thaw 1
  have f2 := hf3.thaw 2
  have f3 := hf3.thaw 3
  have HW : Hid (FtC ((((w3.setCell ⟨w.heap.size, 0, none⟩ (.int .i64 c)).setCell ⟨w.heap.size, 1, none⟩ (.int .i64 li)).setCell ⟨w.heap.size, 2, none⟩ (.int .i64 co)).setCell ⟨w.heap.size, 3, none⟩ (.string wd)) w.heap.size (.int .i64 c) (.int .i64 li) (.int .i64 co) (.string wd)) := hf3.write _ _ _ _
  have HB : Hid (Below w.heap.size w ((((w3.setCell ⟨w.heap.size, 0, none⟩ (.int .i64 c)).setCell ⟨w.heap.size, 1, none⟩ (.int .i64 li)).setCell ⟨w.heap.size, 2, none⟩ (.int .i64 co)).setCell ⟨w.heap.size, 3, none⟩ (.string wd))) := (((b3.setCell (p := ⟨w.heap.size, 0, none⟩) (Nat.le_refl _) _).setCell (p := ⟨w.heap.size, 1, none⟩) (Nat.le_refl _) _).setCell (p := ⟨w.heap.size, 2, none⟩) (Nat.le_refl _) _).setCell (p := ⟨w.heap.size, 3, none⟩) (Nat.le_refl _) _
  clear b3 hF3 hf3 hc
  go_wp2_with fail
  (try simp only [Exit.inBlock, Exit.then])
  exact bodyPost_ret (results_ctx (p := 2) (u := 3) rfl _ _ w.heap.size 26 _ (0, 0) _ rfl HW.out Tryd.underlying26 rfl (by kernel_rfl)) rfl ⟨rfl, HB.out⟩
end Go.Proofs.YtlemnbegblpllaaDoor
