/-
  Proved here: layer 16's law: what the calls answer over the square.
  Proved here: layer 16's law: alive answers true.
  Proved here: layer 16's law: points out of any numbers, as many.
-/
import Derived.Test.YtcoiapgfaibkgaaGreatSpAlAll
import Derived.Test.YtcoiapgfaibkgaaGreatSpB1All
namespace Go.Proofs.YtcoiapgfaibkgaaGreat
set_option linter.unusedVariables false
open Go.RowKit Go.Shelf Go.Sort Go.Lib
theorem v_ap1 : apE p5 5 [1] [2] [0] = 0 := by decide +kernel
theorem v_ap2 : apE p5 5 [1] [2] [0, 4] = 0 := by decide +kernel
theorem v_r1 : decide ((meetR (endsL (wkL p5 5 [1] [0] [0]) [0]) (ofR [2])).length = 0) = true := by decide +kernel
theorem v_r2 : decide ((meetR (endsL (wkL p5 5 [1] [0, 4] [0, 1, 2, 3, 4]) [0, 4]) (ofR [2])).length = 0) = false := by decide +kernel
theorem v_t : trR (wkL p5 5 [1] [0, 4] [0, 1, 2, 3, 4]) 2 [0, 4] = [1, 3, 2] := by decide +kernel
theorem v_w : wkE p5 5 [1] [0] = 0 := by decide +kernel
theorem v_e : endsL (wkL p5 5 [1] [0] [0]) [0] = [1, 3, 4] := by decide +kernel
theorem v_b : blE p5 5 1 = 0 := by decide +kernel
theorem v_bl : blR p5 5 1 = [0, 2, 3] := by decide +kernel
theorem apart1 (pv av bv qv : Value) (pvs : List Value) (w : World) (h : RRD w pv pvs p5) (ha : RG (Value.int .i64) w av [1]) (hb : RG (Value.int .i64) w bv [2]) (hq : RG (Value.int .i64) w qv [0]) :
    Calls Tryz.prog 17 #[pv, av, bv, qv] w fun e w' => e = .returned (.tuple #[.bool true, .int .i64 0]) ∧ Below w.heap.size w w' :=
  (apartP pv av bv qv pvs p5 [1] [2] [0] w h 5 rfl (by omega) ha (by simp) hb (by simp) hq (by simp) (fun h0 A s => hdis_any rfl h0 A s)).mono fun e w' ⟨r, he, _, h2, h3⟩ => by
    obtain ⟨A, hA, hr⟩ := h2 v_ap1
    rw [p5_top hA, v_r1] at hr
    rw [v_ap1, hr] at he
    exact ⟨he, h3⟩
theorem apart2 (pv av bv qv : Value) (pvs : List Value) (w : World) (h : RRD w pv pvs p5) (ha : RG (Value.int .i64) w av [1]) (hb : RG (Value.int .i64) w bv [2]) (hq : RG (Value.int .i64) w qv [0, 4]) :
    Calls Tryz.prog 17 #[pv, av, bv, qv] w fun e w' => e = .returned (.tuple #[.bool false, .int .i64 0]) ∧ Below w.heap.size w w' :=
  (apartP pv av bv qv pvs p5 [1] [2] [0, 4] w h 5 rfl (by omega) ha (by simp) hb (by simp) hq (by simp) (fun h0 A s => hdis_any rfl h0 A s)).mono fun e w' ⟨r, he, _, h2, h3⟩ => by
    obtain ⟨A, hA, hr⟩ := h2 v_ap2
    rw [p5_two hA, v_r2] at hr
    rw [v_ap2, hr] at he
    exact ⟨he, h3⟩
theorem trail1 (pv qv : Value) (pvs : List Value) (w : World) (h : RRD w pv pvs p5) (hq : RG (Value.int .i64) w qv [0, 4]) :
    Calls Tryz.prog 20 #[pv, .int .i64 1, .int .i64 2, qv] w fun e w' => ∃ ao n c, e = .returned (.tuple #[.slice ao n c, .int .i64 0]) ∧ RG (Value.int .i64) w' (.slice ao n c) [1, 3, 2] ∧ Below w.heap.size w w' :=
  (trailP pv qv pvs p5 1 2 [0, 4] w h 5 rfl (by omega) hq (by simp)).mono fun e w' ⟨v, he, _, h2, h3⟩ => by
    obtain ⟨A, hA, hr⟩ := h2 v_ap2
    rw [p5_two hA, v_t] at hr
    rw [v_ap2] at he
    obtain ⟨ao, c, e2, -⟩ := hr.sl
    subst e2
    exact ⟨ao, _, c, he, hr.rg, h3⟩
theorem reach1 (pv av qv : Value) (pvs : List Value) (w : World) (h : RRD w pv pvs p5) (ha : RG (Value.int .i64) w av [1]) (hq : RG (Value.int .i64) w qv [0]) :
    Calls Tryz.prog 12 #[pv, av, qv] w fun e w' => ∃ ao n c, e = .returned (.tuple #[.slice ao n c, .int .i64 0]) ∧ RG (Value.int .i64) w' (.slice ao n c) [1, 3, 4] ∧ Below w.heap.size w w' :=
  (reachP pv av qv pvs p5 [1] [0] w h 5 rfl (by omega) ha (by simp) hq (by simp) (fun h0 A s => hdis_any rfl h0 A s)).mono fun e w' ⟨v, he, _, h2, h3⟩ => by
    obtain ⟨A, hA, hr⟩ := h2 v_w
    rw [p5_top hA, v_e] at hr
    rw [v_w] at he
    obtain ⟨ao, c, e2, -⟩ := hr.sl
    subst e2
    exact ⟨ao, _, c, he, hr.rg, h3⟩
theorem blanket1 (pv : Value) (pvs : List Value) (w : World) (h : RRD w pv pvs p5) :
    Calls Tryz.prog 45 #[pv, .int .i64 1] w fun e w' => ∃ ao n c, e = .returned (.tuple #[.slice ao n c, .int .i64 0]) ∧ RG (Value.int .i64) w' (.slice ao n c) [0, 2, 3] ∧ Below w.heap.size w w' :=
  (blanketS pv pvs p5 w h 5 rfl (by omega) 1).mono fun e w' ⟨v, he, hr, h3⟩ => by
    rw [v_bl] at hr
    rw [v_b] at he
    obtain ⟨ao, c, e2, -⟩ := hr.sl
    subst e2
    exact ⟨ao, _, c, he, hr.rg, h3⟩
theorem same1 (u v : Value) (xs : List Int) (w : World) (hu : RG (Value.int .i64) w u xs) (hv : RG (Value.int .i64) w v xs) : Calls Tryz.prog 46 #[u, v] w fun e w' => e = .returned (.bool true) ∧ Below w.heap.size w w' :=
  (sameL16 u v xs xs w hu hv).mono fun e w' ⟨he, q, hq⟩ => ⟨he.trans (by rw [decide_eq_true rfl]), by rw [hq]; exact below_drewN (Below.refl _ _) q⟩
end Go.Proofs.YtcoiapgfaibkgaaGreat

namespace Go.Proofs.YtcoiapgfaibkgaaGreat
set_option linter.unusedVariables false
open Go.RowKit Go.Shelf Go.Sort Go.Lib
set_option maxRecDepth 1000000 in
set_option maxHeartbeats 12800000 in
theorem alive16 (w : World) : Calls Tryz.prog 21 #[] w fun e w' => e = .returned (.bool true) ∧ Below w.heap.size w w' := by
  have CS : Hid (∀ W : World, Calls Tryz.prog 44 #[] W fun e w' => ∃ so pvs, e = .returned (.slice (some ⟨so, 0, none⟩) 5 5) ∧ RRD w' (.slice (some ⟨so, 0, none⟩) 5 5) pvs p5 ∧ Below W.heap.size W w') := small16
  go_enter Tryz.func21, Tryz.ntmps21
  go_wp2_with fail
  refine Calls.mono (CS.out _) ?_
  rintro e y1 ⟨s1, pv1, rfl, hr1, b1⟩
  have B1 : Hid (Below w.heap.size w y1) := b1
  obtain ⟨W1, hw1, ra1, rb1, rc1, bw1⟩ := lit3 y1 [1] [2] [0] (by decide) (by decide) (by decide)
  have C1 : Hid _ := apart1 _ _ _ _ pv1 W1 (hr1.below (Nat.le_refl _) bw1) ra1 rb1 rc1
  have BW1 : Hid (Below w.heap.size w W1) := bstepB b1 bw1
  have HW1 : Hid (W1 = ((y1.alloc (.cells #[.int .i64 1] 3)).alloc (.cells #[.int .i64 2] 3)).alloc (.cells #[.int .i64 0] 3)) := hw1
  clear hr1 b1 hw1 ra1 rb1 rc1 bw1 B1
  go_wp2_with fail
  rw [← HW1.out]
  refine Calls.mono C1.out ?_
  rintro e y2 ⟨rfl, b2⟩
  have B2 : Hid (Below w.heap.size w y2) := bstepB BW1.out b2
  clear C1 BW1 HW1 b2
  go_wp2_with fail
  refine Calls.mono (CS.out _) ?_
  rintro e y3 ⟨s3, pv3, rfl, hr3, b3⟩
  obtain ⟨W3, hw3, ra3, rb3, rc3, bw3⟩ := lit3 y3 [1] [2] [0, 4] (by decide) (by decide) (by decide)
  have C3 : Hid _ := apart2 _ _ _ _ pv3 W3 (hr3.below (Nat.le_refl _) bw3) ra3 rb3 rc3
  have BW3 : Hid (Below w.heap.size w W3) := bstepB (bstepB B2.out b3) bw3
  have HW3 : Hid (W3 = ((y3.alloc (.cells #[.int .i64 1] 3)).alloc (.cells #[.int .i64 2] 3)).alloc (.cells #[.int .i64 0, .int .i64 4] 3)) := hw3
  clear hr3 b3 hw3 ra3 rb3 rc3 bw3 B2
  go_wp2_with fail
  rw [← HW3.out]
  refine Calls.mono C3.out ?_
  rintro e y4 ⟨rfl, b4⟩
  have B4 : Hid (Below w.heap.size w y4) := bstepB BW3.out b4
  clear C3 BW3 HW3 b4
  go_wp2_with fail
  refine Calls.mono (CS.out _) ?_
  rintro e y5 ⟨s5, pv5, rfl, hr5, b5⟩
  obtain ⟨W5, hw5, ra5, bw5⟩ := lit1 y5 [0, 4] (by decide)
  have C5 : Hid _ := trail1 _ _ pv5 W5 (hr5.below (Nat.le_refl _) bw5) ra5
  have BW5 : Hid (Below w.heap.size w W5) := bstepB (bstepB B4.out b5) bw5
  have HW5 : Hid (W5 = y5.alloc (.cells #[.int .i64 0, .int .i64 4] 3)) := hw5
  clear hr5 b5 hw5 ra5 bw5 B4
  go_wp2_with fail
  rw [← HW5.out]
  refine Calls.mono C5.out ?_
  rintro e y6 ⟨tO, tn, tc, rfl, ht6, b6⟩
  have HT6 : Hid (RG (Value.int .i64) y6 (.slice tO tn tc) [1, 3, 2]) := ht6
  have B6 : Hid (Below w.heap.size w y6) := bstepB BW5.out b6
  clear C5 BW5 HW5 ht6 b6
  go_wp2_with fail
  refine Calls.mono (CS.out _) ?_
  rintro e y7 ⟨s7, pv7, rfl, hr7, b7⟩
  obtain ⟨W7, hw7, ra7, rb7, bw7⟩ := lit2 y7 [1] [0] (by decide) (by decide)
  have C7 : Hid _ := reach1 _ _ _ pv7 W7 (hr7.below (Nat.le_refl _) bw7) ra7 rb7
  have HT7 : Hid (RG (Value.int .i64) W7 (.slice tO tn tc) [1, 3, 2]) := (HT6.out.below (Nat.le_refl _) b7).below (Nat.le_refl _) bw7
  have BW7 : Hid (Below w.heap.size w W7) := bstepB (bstepB B6.out b7) bw7
  have HW7 : Hid (W7 = (y7.alloc (.cells #[.int .i64 1] 3)).alloc (.cells #[.int .i64 0] 3)) := hw7
  clear hr7 b7 hw7 ra7 rb7 bw7 B6 HT6
  go_wp2_with fail
  rw [← HW7.out]
  refine Calls.mono C7.out ?_
  rintro e y8 ⟨ro, rn, rc, rfl, hr8, b8⟩
  have HR8 : Hid (RG (Value.int .i64) y8 (.slice ro rn rc) [1, 3, 4]) := hr8
  have HT8 : Hid (RG (Value.int .i64) y8 (.slice tO tn tc) [1, 3, 2]) := HT7.out.below (Nat.le_refl _) b8
  have B8 : Hid (Below w.heap.size w y8) := bstepB BW7.out b8
  clear C7 BW7 HW7 hr8 b8 HT7
  go_wp2_with fail
  refine Calls.mono (CS.out _) ?_
  rintro e y9 ⟨s9, pv9, rfl, hr9, b9⟩
  have C9 : Hid _ := blanket1 _ pv9 y9 hr9
  have HR9 : Hid (RG (Value.int .i64) y9 (.slice ro rn rc) [1, 3, 4]) := HR8.out.below (Nat.le_refl _) b9
  have HT9 : Hid (RG (Value.int .i64) y9 (.slice tO tn tc) [1, 3, 2]) := HT8.out.below (Nat.le_refl _) b9
  have B9 : Hid (Below w.heap.size w y9) := bstepB B8.out b9
  clear hr9 b9 HR8 HT8 B8
  go_wp2_with fail
  refine Calls.mono C9.out ?_
  rintro e ya ⟨bo, bn, bc, rfl, hba, ba⟩
  have HBa : Hid (RG (Value.int .i64) ya (.slice bo bn bc) [0, 2, 3]) := hba
  have HRa : Hid (RG (Value.int .i64) ya (.slice ro rn rc) [1, 3, 4]) := HR9.out.below (Nat.le_refl _) ba
  have HTa : Hid (RG (Value.int .i64) ya (.slice tO tn tc) [1, 3, 2]) := HT9.out.below (Nat.le_refl _) ba
  have Ba : Hid (Below w.heap.size w ya) := bstepB B9.out ba
  clear C9 hba ba HR9 HT9 B9
  obtain ⟨Wb, hwb, rwb, bwb⟩ := lit1 ya [1, 3, 2] (by decide)
  have Cb : Hid _ := same1 _ _ _ Wb (HTa.out.below (Nat.le_refl _) bwb) rwb
  have HBb : Hid (RG (Value.int .i64) Wb (.slice bo bn bc) [0, 2, 3]) := HBa.out.below (Nat.le_refl _) bwb
  have HRb : Hid (RG (Value.int .i64) Wb (.slice ro rn rc) [1, 3, 4]) := HRa.out.below (Nat.le_refl _) bwb
  have Bb : Hid (Below w.heap.size w Wb) := bstepB Ba.out bwb
  have HWb : Hid (Wb = ya.alloc (.cells #[.int .i64 1, .int .i64 3, .int .i64 2] 3)) := hwb
  clear hwb rwb bwb HBa HRa HTa Ba CS
  go_wp2_with fail
  rw [← HWb.out]
  refine Calls.mono Cb.out ?_
  rintro e yb ⟨rfl, bb⟩
  obtain ⟨Wc, hwc, rwc, bwc⟩ := lit1 yb [1, 3, 4] (by decide)
  have Cc : Hid _ := same1 _ _ _ Wc ((HRb.out.below (Nat.le_refl _) bb).below (Nat.le_refl _) bwc) rwc
  have HBc : Hid (RG (Value.int .i64) Wc (.slice bo bn bc) [0, 2, 3]) := (HBb.out.below (Nat.le_refl _) bb).below (Nat.le_refl _) bwc
  have Bc : Hid (Below w.heap.size w Wc) := bstepB (bstepB Bb.out bb) bwc
  have HWc : Hid (Wc = yb.alloc (.cells #[.int .i64 1, .int .i64 3, .int .i64 4] 3)) := hwc
  clear hwc rwc bwc HBb HRb Bb Cb HWb bb
  go_wp2_with fail
  rw [← HWc.out]
  refine Calls.mono Cc.out ?_
  rintro e yc ⟨rfl, bc2⟩
  obtain ⟨Wd, hwd, rwd, bwd⟩ := lit1 yc [0, 2, 3] (by decide)
  have Cd : Hid _ := same1 _ _ _ Wd ((HBc.out.below (Nat.le_refl _) bc2).below (Nat.le_refl _) bwd) rwd
  have Bd : Hid (Below w.heap.size w Wd) := bstepB (bstepB Bc.out bc2) bwd
  have HWd : Hid (Wd = yc.alloc (.cells #[.int .i64 0, .int .i64 2, .int .i64 3] 3)) := hwd
  clear hwd rwd bwd HBc Bc Cc HWc bc2
  go_wp2_with fail
  rw [← HWd.out]
  refine Calls.mono Cd.out ?_
  rintro e yd ⟨rfl, bd⟩
  have BF : Hid (Below w.heap.size w yd) := bstepB Bd.out bd
  clear Cd HWd bd Bd
  go_wp2
  go_ret
  exact ⟨rfl, BF.out⟩
end Go.Proofs.YtcoiapgfaibkgaaGreat

namespace Go.Proofs.YtcoiapgfaibkgaaGreat
set_option linter.unusedVariables false
open Go.RowKit
set_option maxRecDepth 1000000 in
set_option maxHeartbeats 3200000 in
theorem points16n (v : Value) (L : List Int) (n : Nat) (w : World) (hv : RG (Value.int .i64) w v L) (hl : L.length ≤ 1048576) (hn : n ≤ 100000) :
    Calls Tryz.prog 23 #[v, .int .i64 (n : Int)] w fun e w' => ∃ u M, e = .returned u ∧ OG (Value.int .i64) w.heap.size 3 w' u M ∧ PtsI n M ∧ M.length ≤ L.length ∧ (0 < n → M.length = L.length) ∧ Below w.heap.size w w' := by
  obtain ⟨i0, hi, hz0, hz1, hz2⟩ := info_parts Tryz.infoI
  obtain ⟨vo, vn, vc, rfl⟩ : ∃ o n c, v = .slice o n c := by obtain ⟨ao, cap, e⟩ := hv.sl; exact ⟨_, _, _, e⟩
  have HV : Hid (RG (Value.int .i64) w (.slice vo vn vc) L) := hv
  have HVN : Hid (L.length = vn) := hv.len
  have hvl : vn ≤ 1048576 := by rw [← hv.len]; exact hl
  clear hv hl
  go_enter Tryz.func23, Tryz.ntmps23
  go_wp2
  go_loopg [5, 6, 7] vn (fun g1 v5 v6 _v7 wr => ∃ (i : Nat) (lo : Option Addr) (ln lc : Nat) (M : List Int), v5 = .slice lo ln lc ∧ v6 = .int .i64 i ∧ i ≤ vn ∧ vn - i ≤ g1 ∧ M.length ≤ i ∧ Hid (0 < n → M.length = i) ∧ Hid (OG (Value.int .i64) w.heap.size 3 wr (.slice lo ln lc) M) ∧ Hid (PtsI n M) ∧ Hid (Below w.heap.size w wr))
  case atStart => exact ⟨0, none, 0, 0, [], rfl, rfl, Nat.zero_le _, by omega, by simp, (fun _ => rfl), OG.nil _ _ _, (fun x hx => by simp at hx), Below.refl _ _⟩
  case round =>
    obtain ⟨i, lo, ln, lc, M, rfl, rfl, hin, hg1, hM, HMI, HO, HP, HB⟩ := hrel
    by_cases hlt : i < vn
    · have hltz : (i : Int) < (vn : Int) := by omega
      by_cases hn0 : 0 < n
      · have hnz : (0 : Int) < (n : Int) := by omega
        have hnz2 : ¬ ((n : Int) = 0) := by omega
        obtain ⟨x, gx, ox, hx1, rfl, hx0⟩ := HV.out.at hlt
        have hx2 : wr.cell? ⟨gx, ox + i, none⟩ = some (.int .i64 x) := keepR HB.out hx0
        obtain ⟨r, hr⟩ : ∃ r, x.tmod (n : Int) = r := ⟨_, rfl⟩
        have hr1 : r < (n : Int) := by rw [← hr]; exact Int.tmod_lt_of_pos x hnz
        have hr2 : -(n : Int) < r := by
          have h1 := Int.tmod_lt_of_pos (-x) hnz
          rw [Int.neg_tmod] at h1
          omega
        have hrw : IntKind.i64.wrap r = r := by rw [IntKind.wrap_i64]; omega
        clear hx1 hx0
        have HLN : Hid (M.length ≤ 1048576) := by show _ ≤ _; omega
        by_cases hneg : r < 0
        · obtain ⟨s, hs⟩ : ∃ s, r + (n : Int) = s := ⟨_, rfl⟩
          have hs0 : 0 ≤ s := by omega
          have hs1 : s < (n : Int) := by omega
          have hsw : IntKind.i64.wrap s = s := by rw [IntKind.wrap_i64]; omega
          obtain ⟨WA, hWA⟩ : ∃ W, W = wr.alloc (.cells #[.int .i64 s] 3) := ⟨_, rfl⟩
          obtain ⟨gb, hgb⟩ : ∃ g, g = wr.heap.size := ⟨_, rfl⟩
          have HBA : Hid (Below wr.heap.size wr WA) := by show Below _ _ _; rw [hWA]; exact belowB _ _
          have HCB : Hid (WA.cell? ⟨gb, 0, none⟩ = some (.int .i64 s)) := by show _ = _; rw [hWA, hgb, World.cell?_alloc_at _ _ _ _ rfl]; rfl
          have HWA : Hid (WA = wr.alloc (.cells #[.int .i64 s] 3)) := hWA
          have HGB : Hid (gb = wr.heap.size) := hgb
          have HBW : Hid (Below w.heap.size w WA) := bstepB HB.out HBA.out
          clear hWA hgb
          go_wp2_with (at_builtin; rw [← HWA.out, ← HGB.out]; refine wpList_pushV (enc := Value.int .i64) _ rfl _ _ 23 rfl w.heap.size 3 i0 (.int .i64 0) 8 Tryz.underlying23 hi hz0 hz1 hz2 rfl _ M rfl (HO.out.below HBA.out) gb s rfl HCB.out rfl (by have := HLN.out; unfold maxLen; omega) (by have := HLN.out; omega) HBW.out.size ?_)
          intro ng tm ncap W2 ho hg3 hng _
          have HO2 : Hid (OG (Value.int .i64) w.heap.size 3 W2 (.slice (some ⟨ng, 0, none⟩) tm ncap) (M ++ [s])) := ho
          have HP2 : Hid (PtsI n (M ++ [s])) := HP.out.snoc (by omega) (by omega)
          have HB2 : Hid (Below w.heap.size w W2) := (HO.out.below HBA.out).grown HBW.out HBW.out.size hg3
          have HMI2 : Hid (0 < n → (M ++ [s]).length = i + 1) := fun h => by rw [List.length_append, List.length_singleton, HMI.out h]
          have hM2 : (M ++ [s]).length ≤ i + 1 := by rw [List.length_append, List.length_singleton]; omega
          clear ho hg3 hng HMI HO HB HP HBA HCB HWA HGB HBW HLN hx2
          go_wp2
          go_roundg (vn - (i + 1))
          case measure => omega
          case rel => exact ⟨i + 1, _, _, _, _, rfl, by go_num, by omega, Nat.le_refl _, hM2, HMI2, HO2, HP2, HB2⟩
        · have hr0 : 0 ≤ r := by omega
          obtain ⟨WA, hWA⟩ : ∃ W, W = wr.alloc (.cells #[.int .i64 r] 3) := ⟨_, rfl⟩
          obtain ⟨gb, hgb⟩ : ∃ g, g = wr.heap.size := ⟨_, rfl⟩
          have HBA : Hid (Below wr.heap.size wr WA) := by show Below _ _ _; rw [hWA]; exact belowB _ _
          have HCB : Hid (WA.cell? ⟨gb, 0, none⟩ = some (.int .i64 r)) := by show _ = _; rw [hWA, hgb, World.cell?_alloc_at _ _ _ _ rfl]; rfl
          have HWA : Hid (WA = wr.alloc (.cells #[.int .i64 r] 3)) := hWA
          have HGB : Hid (gb = wr.heap.size) := hgb
          have HBW : Hid (Below w.heap.size w WA) := bstepB HB.out HBA.out
          clear hWA hgb
          go_wp2_with (at_builtin; rw [← HWA.out, ← HGB.out]; refine wpList_pushV (enc := Value.int .i64) _ rfl _ _ 23 rfl w.heap.size 3 i0 (.int .i64 0) 8 Tryz.underlying23 hi hz0 hz1 hz2 rfl _ M rfl (HO.out.below HBA.out) gb r rfl HCB.out rfl (by have := HLN.out; unfold maxLen; omega) (by have := HLN.out; omega) HBW.out.size ?_)
          intro ng tm ncap W2 ho hg3 hng _
          have HO2 : Hid (OG (Value.int .i64) w.heap.size 3 W2 (.slice (some ⟨ng, 0, none⟩) tm ncap) (M ++ [r])) := ho
          have HP2 : Hid (PtsI n (M ++ [r])) := HP.out.snoc (by omega) (by omega)
          have HB2 : Hid (Below w.heap.size w W2) := (HO.out.below HBA.out).grown HBW.out HBW.out.size hg3
          have HMI2 : Hid (0 < n → (M ++ [r]).length = i + 1) := fun h => by rw [List.length_append, List.length_singleton, HMI.out h]
          have hM2 : (M ++ [r]).length ≤ i + 1 := by rw [List.length_append, List.length_singleton]; omega
          clear ho hg3 hng HMI HO HB HP HBA HCB HWA HGB HBW HLN hx2
          go_wp2
          go_roundg (vn - (i + 1))
          case measure => omega
          case rel => exact ⟨i + 1, _, _, _, _, rfl, by go_num, by omega, Nat.le_refl _, hM2, HMI2, HO2, HP2, HB2⟩
      · have hnz : ¬ (0 : Int) < (n : Int) := by omega
        have hlen : Hid (M.length ≤ L.length) := by show _ ≤ _; rw [HVN.out]; omega
        go_wp2
        go_ret
        exact ⟨_, rfl, _, HO.out, HP.out, hlen.out, HB.out⟩
    · have hltz : ¬ (i : Int) < (vn : Int) := by omega
      have hlen : Hid (M.length ≤ L.length) := by show _ ≤ _; rw [HVN.out]; omega
      go_wp2
      go_ret
      exact ⟨_, rfl, _, HO.out, HP.out, hlen.out, fun h => by rw [HMI.out h, HVN.out]; omega, HB.out⟩
end Go.Proofs.YtcoiapgfaibkgaaGreat
