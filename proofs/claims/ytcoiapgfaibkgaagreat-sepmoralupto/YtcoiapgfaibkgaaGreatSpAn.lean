/-
  Proved here: layer 16's law: alive answers true.
-/
import Derived.Test.YtcoiapgfaibkgaaGreatSpAm
namespace Go.Proofs.YtcoiapgfaibkgaaGreat
set_option linter.unusedVariables false
open Go.RowKit Go.Shelf Go.Sort Go.Lib
set_option maxRecDepth 1000000 in
set_option maxHeartbeats 12800000 in
theorem alive16 (w : World) : Calls Tryz.prog 21 #[] w fun e w' => e = .returned (.bool true) ∧ Below w.heap.size w w' := by
  have CS : Hid (∀ W : World, Calls Tryz.prog 44 #[] W fun e w' => ∃ so pvs, e = .returned (.slice (some ⟨so, 0, none⟩) 5 5) ∧ RRD w' (.slice (some ⟨so, 0, none⟩) 5 5) pvs p5 ∧ Below W.heap.size W w') := small16
  go_enter Tryz.func21, Tryz.ntmps21
  go_wp2_with fail
  refine Calls.mono (CS.out _) ?_
  rintro e y1 ⟨s1, pv1, rfl, hr1, b1⟩
  have B1 : Hid (Below w.heap.size w y1) := b1
  obtain ⟨W1, hw1, ra1, rb1, rc1, bw1⟩ := lit3 y1 [1] [2] [0] (by decide) (by decide) (by decide)
  have C1 : Hid _ := apart1 _ _ _ _ pv1 W1 (hr1.below (Nat.le_refl _) bw1) ra1 rb1 rc1
  have BW1 : Hid (Below w.heap.size w W1) := bstepB b1 bw1
  have HW1 : Hid (W1 = ((y1.alloc (.cells #[.int .i64 1] 3)).alloc (.cells #[.int .i64 2] 3)).alloc (.cells #[.int .i64 0] 3)) := hw1
  clear hr1 b1 hw1 ra1 rb1 rc1 bw1 B1
  go_wp2_with fail
  rw [← HW1.out]
  refine Calls.mono C1.out ?_
  rintro e y2 ⟨rfl, b2⟩
  have B2 : Hid (Below w.heap.size w y2) := bstepB BW1.out b2
  clear C1 BW1 HW1 b2
  go_wp2_with fail
  refine Calls.mono (CS.out _) ?_
  rintro e y3 ⟨s3, pv3, rfl, hr3, b3⟩
  obtain ⟨W3, hw3, ra3, rb3, rc3, bw3⟩ := lit3 y3 [1] [2] [0, 4] (by decide) (by decide) (by decide)
  have C3 : Hid _ := apart2 _ _ _ _ pv3 W3 (hr3.below (Nat.le_refl _) bw3) ra3 rb3 rc3
  have BW3 : Hid (Below w.heap.size w W3) := bstepB (bstepB B2.out b3) bw3
  have HW3 : Hid (W3 = ((y3.alloc (.cells #[.int .i64 1] 3)).alloc (.cells #[.int .i64 2] 3)).alloc (.cells #[.int .i64 0, .int .i64 4] 3)) := hw3
  clear hr3 b3 hw3 ra3 rb3 rc3 bw3 B2
  go_wp2_with fail
  rw [← HW3.out]
  refine Calls.mono C3.out ?_
  rintro e y4 ⟨rfl, b4⟩
  have B4 : Hid (Below w.heap.size w y4) := bstepB BW3.out b4
  clear C3 BW3 HW3 b4
  go_wp2_with fail
  refine Calls.mono (CS.out _) ?_
  rintro e y5 ⟨s5, pv5, rfl, hr5, b5⟩
  obtain ⟨W5, hw5, ra5, bw5⟩ := lit1 y5 [0, 4] (by decide)
  have C5 : Hid _ := trail1 _ _ pv5 W5 (hr5.below (Nat.le_refl _) bw5) ra5
  have BW5 : Hid (Below w.heap.size w W5) := bstepB (bstepB B4.out b5) bw5
  have HW5 : Hid (W5 = y5.alloc (.cells #[.int .i64 0, .int .i64 4] 3)) := hw5
  clear hr5 b5 hw5 ra5 bw5 B4
  go_wp2_with fail
  rw [← HW5.out]
  refine Calls.mono C5.out ?_
  rintro e y6 ⟨tO, tn, tc, rfl, ht6, b6⟩
  have HT6 : Hid (RG (Value.int .i64) y6 (.slice tO tn tc) [1, 3, 2]) := ht6
  have B6 : Hid (Below w.heap.size w y6) := bstepB BW5.out b6
  clear C5 BW5 HW5 ht6 b6
  go_wp2_with fail
  refine Calls.mono (CS.out _) ?_
  rintro e y7 ⟨s7, pv7, rfl, hr7, b7⟩
  obtain ⟨W7, hw7, ra7, rb7, bw7⟩ := lit2 y7 [1] [0] (by decide) (by decide)
  have C7 : Hid _ := reach1 _ _ _ pv7 W7 (hr7.below (Nat.le_refl _) bw7) ra7 rb7
  have HT7 : Hid (RG (Value.int .i64) W7 (.slice tO tn tc) [1, 3, 2]) := (HT6.out.below (Nat.le_refl _) b7).below (Nat.le_refl _) bw7
  have BW7 : Hid (Below w.heap.size w W7) := bstepB (bstepB B6.out b7) bw7
  have HW7 : Hid (W7 = (y7.alloc (.cells #[.int .i64 1] 3)).alloc (.cells #[.int .i64 0] 3)) := hw7
  clear hr7 b7 hw7 ra7 rb7 bw7 B6 HT6
  go_wp2_with fail
  rw [← HW7.out]
  refine Calls.mono C7.out ?_
  rintro e y8 ⟨ro, rn, rc, rfl, hr8, b8⟩
  have HR8 : Hid (RG (Value.int .i64) y8 (.slice ro rn rc) [1, 3, 4]) := hr8
  have HT8 : Hid (RG (Value.int .i64) y8 (.slice tO tn tc) [1, 3, 2]) := HT7.out.below (Nat.le_refl _) b8
  have B8 : Hid (Below w.heap.size w y8) := bstepB BW7.out b8
  clear C7 BW7 HW7 hr8 b8 HT7
  go_wp2_with fail
  refine Calls.mono (CS.out _) ?_
  rintro e y9 ⟨s9, pv9, rfl, hr9, b9⟩
  have C9 : Hid _ := blanket1 _ pv9 y9 hr9
  have HR9 : Hid (RG (Value.int .i64) y9 (.slice ro rn rc) [1, 3, 4]) := HR8.out.below (Nat.le_refl _) b9
  have HT9 : Hid (RG (Value.int .i64) y9 (.slice tO tn tc) [1, 3, 2]) := HT8.out.below (Nat.le_refl _) b9
  have B9 : Hid (Below w.heap.size w y9) := bstepB B8.out b9
  clear hr9 b9 HR8 HT8 B8
  go_wp2_with fail
  refine Calls.mono C9.out ?_
  rintro e ya ⟨bo, bn, bc, rfl, hba, ba⟩
  have HBa : Hid (RG (Value.int .i64) ya (.slice bo bn bc) [0, 2, 3]) := hba
  have HRa : Hid (RG (Value.int .i64) ya (.slice ro rn rc) [1, 3, 4]) := HR9.out.below (Nat.le_refl _) ba
  have HTa : Hid (RG (Value.int .i64) ya (.slice tO tn tc) [1, 3, 2]) := HT9.out.below (Nat.le_refl _) ba
  have Ba : Hid (Below w.heap.size w ya) := bstepB B9.out ba
  clear C9 hba ba HR9 HT9 B9
  obtain ⟨Wb, hwb, rwb, bwb⟩ := lit1 ya [1, 3, 2] (by decide)
  have Cb : Hid _ := same1 _ _ _ Wb (HTa.out.below (Nat.le_refl _) bwb) rwb
  have HBb : Hid (RG (Value.int .i64) Wb (.slice bo bn bc) [0, 2, 3]) := HBa.out.below (Nat.le_refl _) bwb
  have HRb : Hid (RG (Value.int .i64) Wb (.slice ro rn rc) [1, 3, 4]) := HRa.out.below (Nat.le_refl _) bwb
  have Bb : Hid (Below w.heap.size w Wb) := bstepB Ba.out bwb
  have HWb : Hid (Wb = ya.alloc (.cells #[.int .i64 1, .int .i64 3, .int .i64 2] 3)) := hwb
  clear hwb rwb bwb HBa HRa HTa Ba CS
  go_wp2_with fail
  rw [← HWb.out]
  refine Calls.mono Cb.out ?_
  rintro e yb ⟨rfl, bb⟩
  obtain ⟨Wc, hwc, rwc, bwc⟩ := lit1 yb [1, 3, 4] (by decide)
  have Cc : Hid _ := same1 _ _ _ Wc ((HRb.out.below (Nat.le_refl _) bb).below (Nat.le_refl _) bwc) rwc
  have HBc : Hid (RG (Value.int .i64) Wc (.slice bo bn bc) [0, 2, 3]) := (HBb.out.below (Nat.le_refl _) bb).below (Nat.le_refl _) bwc
  have Bc : Hid (Below w.heap.size w Wc) := bstepB (bstepB Bb.out bb) bwc
  have HWc : Hid (Wc = yb.alloc (.cells #[.int .i64 1, .int .i64 3, .int .i64 4] 3)) := hwc
  clear hwc rwc bwc HBb HRb Bb Cb HWb bb
  go_wp2_with fail
  rw [← HWc.out]
  refine Calls.mono Cc.out ?_
  rintro e yc ⟨rfl, bc2⟩
  obtain ⟨Wd, hwd, rwd, bwd⟩ := lit1 yc [0, 2, 3] (by decide)
  have Cd : Hid _ := same1 _ _ _ Wd ((HBc.out.below (Nat.le_refl _) bc2).below (Nat.le_refl _) bwd) rwd
  have Bd : Hid (Below w.heap.size w Wd) := bstepB (bstepB Bc.out bc2) bwd
  have HWd : Hid (Wd = yc.alloc (.cells #[.int .i64 0, .int .i64 2, .int .i64 3] 3)) := hwd
  clear hwd rwd bwd HBc Bc Cc HWc bc2
  go_wp2_with fail
  rw [← HWd.out]
  refine Calls.mono Cd.out ?_
  rintro e yd ⟨rfl, bd⟩
  have BF : Hid (Below w.heap.size w yd) := bstepB Bd.out bd
  clear Cd HWd bd Bd
  go_wp2
  go_ret
  exact ⟨rfl, BF.out⟩
end Go.Proofs.YtcoiapgfaibkgaaGreat
