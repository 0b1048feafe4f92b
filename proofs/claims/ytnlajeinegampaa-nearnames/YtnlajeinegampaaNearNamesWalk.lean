/-
  Proved here: NearNames returns true, and writes nothing that was there.
-/
import Derived.Test.YtnlajeinegampaaNearP
namespace Go.Proofs.Ytnlajeinegampaa
open Go.RowKit

theorem tenth_bits : sidedF (decide (cmpZ (zv false (val [1])) 0 < 0)) (nearestF (findF 53 (-1074) 1024 (val [1]) (undN (val [10])))) = 4591870180066957722 := by decide +kernel
theorem tenth_same : (FloatKind.f64.format.order 4591870180066957722 4591870180066957722 == some .eq) = true := by decide +kernel

set_option maxRecDepth 100000 in
set_option maxHeartbeats 1600000 in
theorem nearNames_top (w : World) :
    Calls Try.prog 5 #[] w fun e w' => e = .returned (.bool true) ∧ Below w.heap.size w w' := by
  obtain ⟨W1, hW1⟩ : ∃ W, W = w.alloc (.cells #[.int .u32 1] 40) := ⟨_, rfl⟩
  have n1 : Num W1 (.slice (some ⟨w.heap.size, 0, none⟩) 1 1) [1] := by rw [hW1]; exact (Own.lit (B := 0) 40 w #[.int .u32 1] [1] (by intro x hx; simp at hx; omega) (Nat.zero_le _) (by simp [maxLen]) (by simp [U])).num
  obtain ⟨W2, hW2⟩ : ∃ W, W = W1.alloc (.cells #[.int .u32 10] 40) := ⟨_, rfl⟩
  have n2 : Num W2 (.slice (some ⟨W1.heap.size, 0, none⟩) 1 1) [10] := by rw [hW2]; exact (Own.lit (B := 0) 40 W1 #[.int .u32 10] [10] (by intro x hx; simp at hx; omega) (Nat.zero_le _) (by simp [maxLen]) (by simp [U])).num
  have b1 : Below w.heap.size w W1 := by rw [hW1]; exact belowA _ _
  have b2 : Below W1.heap.size W1 W2 := by rw [hW2]; exact belowA _ _
  replace n1 := n1.below (Nat.le_refl _) b2
  have hq := nearest_any false _ _ _ _ _ _ [1] [10] W2 n1 n2 (by decide) (by decide)
  rw [tenth_bits] at hq
  have hsz : W1.heap.size = w.heap.size + 1 := by rw [hW1]; simp
  rw [hsz] at hq
  have HW : Hid ((w.alloc (.cells #[.int .u32 1] 40)).alloc (.cells #[.int .u32 10] 40) = W2) := by show _ = _; rw [hW2, hW1]
  have ht := tenth_same
  have hbb := bstep b1 b2
  clear n1 n2 hW1 hW2 hsz b1 b2
  go_enter Try.func5, Try.ntmps5
  go_wp2_with fail
  rw [HW.out]
  refine hq.mono ?_
  rintro e w3 ⟨rfl, b⟩
  have HE : Hid (Below w.heap.size w w3) := bstep hbb b
  clear hq b hbb HW
  go_wp2
  go_ret
  exact ⟨rfl, HE.out⟩
end Go.Proofs.Ytnlajeinegampaa
