/-
  Proved here: RadixAll answers true.
-/
import Derived.Test.YtfanomoijjjcmaaRadNI
import Derived.Test.YtfanomoijjjcmaaRadNJ
import Derived.Test.YtfanomoijjjcmaaRadNS
namespace Go.Proofs.Ytfanomoijjjcmaa
open Go.RowKit Go.Shelf

set_option maxRecDepth 100000 in
set_option maxHeartbeats 3200000 in
theorem radixAll_top (v : Value) (l : List Int) (a : Int) (w : World) (hv : RK .i64 w v l) (_ : (Lit.int .i64 a).wf = true) (hz : l.length ≤ 17592186043904) :
    Calls Try.prog 6 #[v, .int .i64 a] w fun e w' => e = .returned (.bool true) ∧ Below w.heap.size w w' := by
  have hsv : ∃ vo vn vc, v = .slice vo vn vc := by obtain ⟨x, y, e, _⟩ := hv; exact ⟨_, _, _, e⟩
  obtain ⟨vo, vn, vc, rfl⟩ := hsv
  go_enter Try.func6, Try.ntmps6
  go_wp2_with fail
  refine (walkedI _ l a w hv hz).mono ?_
  rintro e w1 ⟨rfl, b1⟩
  go_wp2_with fail
  refine (narrow_any _ l w1 (hv.below (Nat.le_refl _) b1) hz).mono ?_
  rintro e w2 ⟨p, rfl, op, b⟩
  have b2 := bstepR b1 b
  have rp := RK.of_own op (inK_map wrap_i32_in)
  obtain ⟨po, pc, rfl, -⟩ := op.sl
  rw [List.length_map] at rp ⊢
  clear b op b1
  go_wp2_with fail
  refine (walkedJ _ _ a w2 rp (by rw [List.length_map]; exact hz)).mono ?_
  rintro e w4 ⟨rfl, b⟩
  have b4 := bstepR b2 b
  clear b b2 rp
  go_wp2_with fail
  refine (tiny_any _ l w4 (hv.below (Nat.le_refl _) b4) hz).mono ?_
  rintro e w5 ⟨p, rfl, op, b⟩
  have b5 := bstepR b4 b
  have rp := RK.of_own op (inK_map wrap_u16_in)
  obtain ⟨po, pc, rfl, -⟩ := op.sl
  rw [List.length_map] at rp ⊢
  clear b op b4
  go_wp2_with fail
  refine (walkedS _ _ a w5 rp (by rw [List.length_map]; exact hz)).mono ?_
  rintro e w7 ⟨rfl, b⟩
  have HB : Hid (Below w.heap.size w w7) := bstepR b5 b
  clear b b5 rp
  go_wp2
  go_ret
  exact ⟨rfl, HB.out⟩
end Go.Proofs.Ytfanomoijjjcmaa
