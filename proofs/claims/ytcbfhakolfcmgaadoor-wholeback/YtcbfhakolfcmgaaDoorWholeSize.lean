/-
  Proved here: what size of credencelaw02 answers.
-/
import Derived.Test.YtcbfhakolfcmgaaDoorWholeX3
namespace Go.Proofs.YtcbfhakolfcmgaaDoor
open Go.RowKit

set_option maxRecDepth 100000 in
set_option maxHeartbeats 3200000 in
theorem lsize_any {n : Bool} {o : Option Addr} {l c : Nat} {x : Int} {w : World} (ha : INum w (.agg #[.bool n, .slice o l c]) x) :
    Calls Tryd.prog 21 #[.agg #[.bool n, .slice o l c]] w fun e w' => e = .returned (.agg #[.bool false, .slice o l c]) ∧ INum w' (.agg #[.bool false, .slice o l c]) (x.natAbs : Int) ∧ Below w.heap.size w w' := by
  have hbel : Below w.heap.size w ((w.alloc (.cells #[.bool n, .slice o l c] 25)).alloc (.cells #[.bool false, .slice o l c] 25)) := bstep (belowA _ _) (belowA _ _)
  have hi : INum ((w.alloc (.cells #[.bool n, .slice o l c] 25)).alloc (.cells #[.bool false, .slice o l c] 25)) (.agg #[.bool false, .slice o l c]) (x.natAbs : Int) := by
    obtain ⟨xs, h1, h2, h3, _⟩ := ha.abs
    exact ⟨false, o, l, c, xs, rfl, h1.below (Nat.le_refl _) hbel, h2, by unfold zv; simp [h3]⟩
  have HI : Hid _ := hi
  have HB : Hid _ := hbel
  clear hi hbel ha
  go_enter Tryd.func21, Tryd.ntmps21
  go_wp2_with fail
  (try simp only [Exit.inBlock, Exit.then])
  exact bodyPost_ret (results_cell_row rfl _ _ (w.heap.size + 1) 25 _ (0, 0) _ rfl (heap_alloc2_new w _ _) Tryd.underlying25 rfl (by kernel_rfl)) rfl ⟨rfl, HI.out, HB.out⟩
end Go.Proofs.YtcbfhakolfcmgaaDoor
