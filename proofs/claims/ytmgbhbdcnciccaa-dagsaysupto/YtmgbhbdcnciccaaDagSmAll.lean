/-
  Proved here: the law's alive is true.
  Proved here: the law's same, of rows that read alike.
-/
import Derived.Test.YtmgbhbdcnciccaaDagAnAll
namespace Go.Proofs.Ytmgbhbdcnciccaa
set_option linter.unusedVariables false
open Go.RowKit
theorem p4_len : ∀ i, (p4.getD i []).length ≤ 100000 := fun i => by
  match i with
  | 0 => decide
  | 1 => decide
  | 2 => decide
  | 3 => decide
  | i + 4 => simp [p4]
theorem p3_len : ∀ i, (p3.getD i []).length ≤ 100000 := fun i => by
  match i with
  | 0 => decide
  | 1 => decide
  | 2 => decide
  | i + 3 => simp [p3]
theorem sameY (u v : Value) (xs : List Int) (w : World) (hu : RG (Value.int .i64) w u xs) (hv : RG (Value.int .i64) w v xs) : Calls Try.prog 16 #[u, v] w fun e w' => e = .returned (.bool true) ∧ Below w.heap.size w w' := by
  refine Calls.mono (sameD u v xs xs w hu hv) ?_
  rintro e w' ⟨rfl, q, rfl⟩
  exact ⟨by rw [decide_eq_true rfl], below_drewN (Below.refl _ _) q⟩
set_option maxRecDepth 100000 in
set_option maxHeartbeats 6400000 in
theorem aliveD (w : World) : Calls Try.prog 8 #[] w fun e w' => e = .returned (.bool true) ∧ Below w.heap.size w w' := by
  have h4 : ∀ (u : World), ∃ W, W = ((((((u.alloc (.cells #[] 3)).alloc (.cells #[.int .i64 0] 3)).alloc (.cells #[.int .i64 0] 3)).alloc (.cells #[.int .i64 2, .int .i64 1] 3)).alloc (.cells #[.slice (some ⟨u.heap.size, 0, none⟩) 0 0, .slice (some ⟨u.heap.size + 1, 0, none⟩) 1 1, .slice (some ⟨u.heap.size + 1 + 1, 0, none⟩) 1 1, .slice (some ⟨u.heap.size + 1 + 1 + 1, 0, none⟩) 2 2] 24))) ∧ (∃ svs, RRD W (.slice (some ⟨u.heap.size + 1 + 1 + 1 + 1, 0, none⟩) 4 4) svs p4) ∧ Below u.heap.size u W ∧ W.heap.size = u.heap.size + 1 + 1 + 1 + 1 + 1 := fun u => by
    refine ⟨_, rfl, ?_⟩
    obtain ⟨svs, h1, h2⟩ := rrd4 u [] [0] [0] [2, 1] (by simp) _ _ _ _ _ rfl rfl rfl rfl rfl
    exact ⟨⟨svs, h1⟩, h2, by simp⟩
  have h3 : ∀ (u : World), ∃ W, W = (((((u.alloc (.cells #[.int .i64 1] 3)).alloc (.cells #[.int .i64 2] 3)).alloc (.cells #[.int .i64 0] 3)).alloc (.cells #[.slice (some ⟨u.heap.size, 0, none⟩) 1 1, .slice (some ⟨u.heap.size + 1, 0, none⟩) 1 1, .slice (some ⟨u.heap.size + 1 + 1, 0, none⟩) 1 1] 24))) ∧ (∃ svs, RRD W (.slice (some ⟨u.heap.size + 1 + 1 + 1, 0, none⟩) 3 3) svs p3) ∧ Below u.heap.size u W := fun u => by
    refine ⟨_, rfl, ?_⟩
    obtain ⟨svs, h1, h2⟩ := rrd3 u [1] [2] [0] (by simp) _ _ _ _ rfl rfl rfl rfl
    exact ⟨⟨svs, h1⟩, h2⟩
  have H4 : Hid _ := h4
  have H3 : Hid _ := h3
  clear h4 h3
  go_enter Try.func8, Try.ntmps8
  obtain ⟨WA, hWA, ⟨s1, hR1⟩, hB1, _⟩ := H4.out w
  have C1 : Hid _ := orderD _ s1 p4 WA hR1 4 rfl (by omega) p4_len
  have HB1 : Hid (Below w.heap.size w WA) := hB1
  have HWA : Hid (WA = _) := hWA
  clear hR1 hB1 hWA
  go_wp2_with fail
  rw [← HWA.out]
  refine Calls.mono C1.out ?_
  clear C1 HWA
  rintro e w1 ⟨l, rfl, hl, hw1⟩
  rw [p4_ck]
  rw [p4_ord] at hl
  have HW1 : Hid (Below w.heap.size w w1) := HB1.out.trans (hw1.mono HB1.out.size)
  have HL : Hid (OG (Value.int .i64) w.heap.size 3 w1 l [0, 1, 2, 3]) := hl.mono HB1.out.size
  obtain ⟨lo, ln, lc, rfl⟩ : ∃ o n c, l = .slice o n c := by obtain ⟨ao, cap, e⟩ := hl.rg.sl; exact ⟨_, _, _, e⟩
  clear hl hw1 HB1
  obtain ⟨WB, hWB, ⟨s2, hR2⟩, hB2, hs2⟩ := H4.out w1
  obtain ⟨WC, hWC⟩ : ∃ W, W = WB.alloc (.cells #[.int .i64 1, .int .i64 2] 3) := ⟨_, rfl⟩
  have hq := RG.lit WB 3 [1, 2] (by simp)
  have hb9 : Below WB.heap.size WB WC := by rw [hWC]; exact belowB _ _
  rw [hs2] at hq
  have hq2 : RG (Value.int .i64) WC (.slice (some ⟨w1.heap.size + 1 + 1 + 1 + 1 + 1, 0, none⟩) 2 2) [1, 2] := by rw [hWC]; exact hq
  have C2 : Hid _ := aboveD _ _ s2 p4 [1, 2] WC (hR2.below (Nat.le_refl _) hb9) 4 rfl (by omega) p4_len hq2 (by simp)
  have HB2 : Hid (Below w.heap.size w WC) := HW1.out.trans ((hB2.trans (hb9.mono hB2.size)).mono HW1.out.size)
  have HL2 : Hid (∀ W, Below w1.heap.size w1 W → RG (Value.int .i64) W (.slice lo ln lc) [0, 1, 2, 3]) := fun W hW => HL.out.rg.below (Nat.le_refl _) hW
  have HBC : Hid (Below w1.heap.size w1 WC) := hB2.trans (hb9.mono hB2.size)
  have HWB : Hid (WB = _) := hWB
  have HWC : Hid (WC = WB.alloc (.cells #[.int .i64 1, .int .i64 2] 3)) := hWC
  clear hR2 hB2 hs2 hq hq2 hb9 hWB hWC HL
  go_wp2_with fail
  rw [← HWB.out, ← HWC.out]
  refine Calls.mono C2.out ?_
  clear C2 HWB HWC
  rintro e w2 ⟨hE, hw2⟩
  rcases hE with ⟨h0, _⟩ | ⟨_, h0 | ⟨_, tv, R, rfl, hR1, hR2, hR3⟩⟩
  · exact absurd p4_ck h0
  · exact absurd h0.1 (by decide +kernel)
  · rw [p4_above hR2 hR3] at hR1
    have HBD : Hid (Below w1.heap.size w1 w2) := HBC.out.trans (hw2.mono HBC.out.size)
    have HW2 : Hid (Below w.heap.size w w2) := HB2.out.trans (hw2.mono HB2.out.size)
    have HR : Hid (RG (Value.int .i64) w2 tv [0, 1, 2]) := hR1.rg
    obtain ⟨mo, mn, mc, rfl⟩ : ∃ o n c, tv = .slice o n c := by obtain ⟨ao, cap, e⟩ := hR1.rg.sl; exact ⟨_, _, _, e⟩
    clear hR1 hR2 hR3 hw2 HBC HB2
    obtain ⟨WD, hWD, ⟨s3, hR3⟩, hB3⟩ := H3.out w2
    have C3 : Hid _ := cycleD _ s3 p3 WD hR3 3 rfl (by omega) p3_len
    have HB3 : Hid (Below w2.heap.size w2 WD) := hB3
    have HWD : Hid (WD = _) := hWD
    clear hR3 hB3 hWD
    go_wp2_with fail
    rw [← HWD.out]
    refine Calls.mono C3.out ?_
    clear C3 HWD
    rintro e w3 ⟨cv, rfl, hc, hw3⟩
    have hcy : cyL p3 = [0, 1, 2] := p3_cyc (cyL_ok p3_ck)
    rw [hcy] at hc
    have HB4 : Hid (Below w2.heap.size w2 w3) := HB3.out.trans (hw3.mono HB3.out.size)
    have HC : Hid (RG (Value.int .i64) w3 cv [0, 1, 2]) := hc.rg
    obtain ⟨co, cn, cc, rfl⟩ : ∃ o n c, cv = .slice o n c := by obtain ⟨ao, cap, e⟩ := hc.rg.sl; exact ⟨_, _, _, e⟩
    clear hc hw3 hcy HB3
    have HB5 : Hid (Below w1.heap.size w1 w3) := HBD.out.trans (HB4.out.mono HBD.out.size)
    have HW3 : Hid (Below w.heap.size w w3) := HW2.out.trans (HB4.out.mono HW2.out.size)
    have HRM : Hid (RG (Value.int .i64) w3 (.slice mo mn mc) [0, 1, 2]) := HR.out.below (Nat.le_refl _) HB4.out
    clear HBD HB4 HR HW2
    obtain ⟨V1, hV1⟩ : ∃ W, W = w3.alloc (.cells #[.int .i64 0, .int .i64 1, .int .i64 2, .int .i64 3] 3) := ⟨_, rfl⟩
    have hl1 : RG (Value.int .i64) V1 (.slice (some ⟨w3.heap.size, 0, none⟩) 4 4) [0, 1, 2, 3] := by rw [hV1]; exact RG.lit w3 3 [0, 1, 2, 3] (by simp)
    have hbv1 : Below w3.heap.size w3 V1 := by rw [hV1]; exact belowB _ _
    have S1 : Hid _ := sameY _ _ [0, 1, 2, 3] V1 ((HL2.out w3 HB5.out).below (Nat.le_refl _) hbv1) hl1
    have HBV1 : Hid (Below w3.heap.size w3 V1) := hbv1
    have HV1 : Hid (V1 = _) := hV1
    clear hl1 hbv1 hV1
    go_wp2_with fail
    rw [← HV1.out]
    refine Calls.mono S1.out ?_
    clear S1 HV1
    rintro e w5 ⟨rfl, hn1⟩
    have HN1 : Hid (Below w3.heap.size w3 w5) := HBV1.out.trans (hn1.mono HBV1.out.size)
    clear hn1 HBV1
    obtain ⟨V2, hV2⟩ : ∃ W, W = w5.alloc (.cells #[.int .i64 0, .int .i64 1, .int .i64 2] 3) := ⟨_, rfl⟩
    have hl2 : RG (Value.int .i64) V2 (.slice (some ⟨w5.heap.size, 0, none⟩) 3 3) [0, 1, 2] := by rw [hV2]; exact RG.lit w5 3 [0, 1, 2] (by simp)
    have hbv2 : Below w5.heap.size w5 V2 := by rw [hV2]; exact belowB _ _
    have S2 : Hid _ := sameY _ _ [0, 1, 2] V2 ((HRM.out.below (Nat.le_refl _) HN1.out).below (Nat.le_refl _) hbv2) hl2
    have HBV2 : Hid (Below w5.heap.size w5 V2) := hbv2
    have HV2 : Hid (V2 = _) := hV2
    clear hl2 hbv2 hV2
    go_wp2_with fail
    rw [← HV2.out]
    refine Calls.mono S2.out ?_
    clear S2 HV2
    rintro e w6 ⟨rfl, hn2⟩
    have HN2 : Hid (Below w5.heap.size w5 w6) := HBV2.out.trans (hn2.mono HBV2.out.size)
    clear hn2 HBV2
    have HCM : Hid (RG (Value.int .i64) w6 (.slice co cn cc) [0, 1, 2]) := (HC.out.below (Nat.le_refl _) HN1.out).below (Nat.le_refl _) HN2.out
    obtain ⟨V3, hV3⟩ : ∃ W, W = w6.alloc (.cells #[.int .i64 0, .int .i64 1, .int .i64 2] 3) := ⟨_, rfl⟩
    have hl3 : RG (Value.int .i64) V3 (.slice (some ⟨w6.heap.size, 0, none⟩) 3 3) [0, 1, 2] := by rw [hV3]; exact RG.lit w6 3 [0, 1, 2] (by simp)
    have hbv3 : Below w6.heap.size w6 V3 := by rw [hV3]; exact belowB _ _
    have S3 : Hid _ := sameY _ _ [0, 1, 2] V3 (HCM.out.below (Nat.le_refl _) hbv3) hl3
    have HBV3 : Hid (Below w6.heap.size w6 V3) := hbv3
    have HV3 : Hid (V3 = _) := hV3
    clear hl3 hbv3 hV3
    go_wp2_with fail
    rw [← HV3.out]
    refine Calls.mono S3.out ?_
    clear S3 HV3
    rintro e w7 ⟨rfl, hn3⟩
    have HN3 : Hid (Below w6.heap.size w6 w7) := HBV3.out.trans (hn3.mono HBV3.out.size)
    clear hn3 HBV3
    go_wp2
    go_ret
    exact ⟨rfl, ((HW3.out.trans (HN1.out.mono HW3.out.size)).trans (HN2.out.mono (HW3.out.trans (HN1.out.mono HW3.out.size)).size)).trans (HN3.out.mono ((HW3.out.trans (HN1.out.mono HW3.out.size)).trans (HN2.out.mono (HW3.out.trans (HN1.out.mono HW3.out.size)).size)).size)⟩
end Go.Proofs.Ytmgbhbdcnciccaa

namespace Go.Proofs.Ytmgbhbdcnciccaa
set_option linter.unusedVariables false
open Go.RowKit
set_option maxRecDepth 100000 in
set_option maxHeartbeats 6400000 in
theorem sameRD (u v : Value) (us vs : List Value) (L : List (List Int)) (w : World) (hu : RRD w u us L) (hv : RRD w v vs L) (hb : L.length ≤ 1000000) :
    Calls Try.prog 29 #[u, v] w fun e w' => e = .returned (.bool true) ∧ Below w.heap.size w w' := by
  obtain ⟨uo, n, uc, rfl⟩ : ∃ o n c, u = .slice o n c := by obtain ⟨ao, cap, e⟩ := hu.out.sl; exact ⟨_, _, _, e⟩
  obtain ⟨vo, vn, vc, rfl⟩ : ∃ o n c, v = .slice o n c := by obtain ⟨ao, cap, e⟩ := hv.out.sl; exact ⟨_, _, _, e⟩
  have hn : L.length = n := by rw [← hu.len, hu.out.len]
  obtain rfl : vn = n := by rw [← hn, ← hv.len, hv.out.len]
  have HU : Hid (RRD w (.slice uo vn uc) us L) := hu
  have HV : Hid (RRD w (.slice vo vn vc) vs L) := hv
  rw [hn] at hb
  clear hu hv hn
  go_enter Try.func29, Try.ntmps29
  go_wp2
  go_loopg [5] vn (fun g1 v5 wr => ∃ i : Nat, v5 = .int .i64 i ∧ i ≤ vn ∧ vn - i ≤ g1 ∧ Hid (Below w.heap.size w wr))
  case atStart => exact ⟨0, rfl, by omega, by omega, Below.refl _ _⟩
  case round =>
    obtain ⟨i, rfl, hin, hg1, HB⟩ := hrel
    by_cases hlt : i < vn
    · have hltz : (i : Int) < (vn : Int) := by omega
      have hU := HU.out.below (Nat.le_refl _) HB.out
      have hV := HV.out.below (Nat.le_refl _) HB.out
      obtain ⟨x, gp, op, hx1, rfl, hx2⟩ := hU.out.at hlt
      obtain ⟨y, gy, oy, hy1, rfl, hy2⟩ := hV.out.at hlt
      have hxr := hU.inn i x hx1
      have hyr := hV.inn i y hy1
      obtain ⟨xo, xn, xc, rfl⟩ : ∃ o n c, x = .slice o n c := by obtain ⟨ao, cap, e⟩ := hxr.sl; exact ⟨_, _, _, e⟩
      obtain ⟨yo, yn, yc, rfl⟩ : ∃ o n c, y = .slice o n c := by obtain ⟨ao, cap, e⟩ := hyr.sl; exact ⟨_, _, _, e⟩
      change wr.cell? ⟨gp, op + i, none⟩ = some (.slice xo xn xc) at hx2
      change wr.cell? ⟨gy, oy + i, none⟩ = some (.slice yo yn yc) at hy2
      have HXR : Hid (RG (Value.int .i64) wr (.slice xo xn xc) (L.getD i [])) := hxr
      have HYR : Hid (RG (Value.int .i64) wr (.slice yo yn yc) (L.getD i [])) := hyr
      clear hU hV hx1 hy1 hxr hyr
      go_upto_region 6 with fail
      have KEEP : ∀ u, Below wr.heap.size wr u → L4.AllL u [(3, fun w' => w'.cell? ⟨gp, op + i, none⟩ = some (.slice xo xn xc)), (7, fun w' => w'.cell? ⟨gy, oy + i, none⟩ = some (.slice yo yn yc))] := fun u hu => ⟨keepR hu hx2, keepR hu hy2, trivial⟩
      refine L4.region_late [(3, fun w' => w'.cell? ⟨gp, op + i, none⟩ = some (.slice xo xn xc)), (7, fun w' => w'.cell? ⟨gy, oy + i, none⟩ = some (.slice yo yn yc))] (by kernel_rfl) ?_
      have B : Below wr.heap.size wr wr.drew := (Below.refl _ _).drew
      obtain ⟨w1, hw1⟩ : ∃ u, u = wr.drew := ⟨_, rfl⟩
      rw [← hw1] at B ⊢
      clear hw1
      have hHeld := KEEP _ B
      refine L4.late_free 0 (v := .slice (some ⟨gp, op, none⟩) vn uc) rfl (by kernel_rfl) (by kernel_rfl) (by kernel_rfl) (by kernel_rfl) (by kernel_rfl) (by kernel_rfl) (fun _ _ _ h => h) (Or.inl ⟨by rfl, ?_⟩) hHeld ?_
      · (intro u _; go_simp)
      (try simp only [Act.put, List.setIfInBounds_toArray, List.set_cons_zero, List.set_cons_succ])
      refine L4.late_free 1 (v := .int .i64 ((i : Nat) : Int)) rfl (by kernel_rfl) (by kernel_rfl) (by kernel_rfl) (by kernel_rfl) (by kernel_rfl) (by kernel_rfl) (fun _ _ _ h => h) (Or.inl ⟨by rfl, ?_⟩) hHeld ?_
      · (intro u _; go_simp)
      (try simp only [Act.put, List.setIfInBounds_toArray, List.set_cons_zero, List.set_cons_succ])
      refine L4.late_free 2 (v := .pointer (some ⟨gp, op + i, none⟩)) rfl (by kernel_rfl) (by kernel_rfl) (by kernel_rfl) (by kernel_rfl) (by kernel_rfl) (by kernel_rfl) (fun _ _ _ h => h) (Or.inl ⟨by rfl, ?_⟩) hHeld ?_
      · (intro u _; go_simp)
      (try simp only [Act.put, List.setIfInBounds_toArray, List.set_cons_zero, List.set_cons_succ])
      refine L4.late_take 3 (v := .slice xo xn xc) rfl (by kernel_rfl) (List.Mem.head _) (by kernel_rfl) (by kernel_rfl) (by kernel_rfl) (by kernel_rfl) (fun _ _ _ h => h) (Or.inl ⟨by rfl, ?_⟩) hHeld ?_
      · (intro u hu; (try dsimp only at hu); go_split_ands; go_simp)
      (try simp only [Act.put, List.setIfInBounds_toArray, List.set_cons_zero, List.set_cons_succ])
      refine L4.late_free 4 (v := .slice (some ⟨gy, oy, none⟩) vn vc) rfl (by kernel_rfl) (by kernel_rfl) (by kernel_rfl) (by kernel_rfl) (by kernel_rfl) (by kernel_rfl) (fun _ _ _ h => h) (Or.inl ⟨by rfl, ?_⟩) hHeld ?_
      · (intro u _; go_simp)
      (try simp only [Act.put, List.setIfInBounds_toArray, List.set_cons_zero, List.set_cons_succ])
      refine L4.late_free 5 (v := .int .i64 ((i : Nat) : Int)) rfl (by kernel_rfl) (by kernel_rfl) (by kernel_rfl) (by kernel_rfl) (by kernel_rfl) (by kernel_rfl) (fun _ _ _ h => h) (Or.inl ⟨by rfl, ?_⟩) hHeld ?_
      · (intro u _; go_simp)
      (try simp only [Act.put, List.setIfInBounds_toArray, List.set_cons_zero, List.set_cons_succ])
      refine L4.late_free 6 (v := .pointer (some ⟨gy, oy + i, none⟩)) rfl (by kernel_rfl) (by kernel_rfl) (by kernel_rfl) (by kernel_rfl) (by kernel_rfl) (by kernel_rfl) (fun _ _ _ h => h) (Or.inl ⟨by rfl, ?_⟩) hHeld ?_
      · (intro u _; go_simp)
      (try simp only [Act.put, List.setIfInBounds_toArray, List.set_cons_zero, List.set_cons_succ])
      refine L4.late_take 7 (v := .slice yo yn yc) rfl (by kernel_rfl) (List.Mem.tail _ (List.Mem.head _)) (by kernel_rfl) (by kernel_rfl) (by kernel_rfl) (by kernel_rfl) (fun _ _ _ h => h) (Or.inl ⟨by rfl, ?_⟩) hHeld ?_
      · (intro u hu; (try dsimp only at hu); go_split_ands; go_simp)
      (try simp only [Act.put, List.setIfInBounds_toArray, List.set_cons_zero, List.set_cons_succ])
      refine L4.late_step 8 (by kernel_rfl) rfl (fun K hK => ?_)
      go_simp
      refine (sameY _ _ _ _ (HXR.out.below (Nat.le_refl _) B) (HYR.out.below (Nat.le_refl _) B)).mono ?_
      rintro e y2 ⟨rfl, c2⟩
      have B := B.trans (c2.mono B.size)
      clear c2 hHeld
      have hHeld := KEEP _ B
      go_wp2_with fail
      refine hK.out _ _ (L4.AllL.kept hHeld) ?_
      clear hK K
      (try simp only [Act.put, List.setIfInBounds_toArray, List.set_cons_zero, List.set_cons_succ])
      refine L4.late_free 9 (v := .bool false) rfl (by kernel_rfl) (by kernel_rfl) (by kernel_rfl) (by kernel_rfl) (by kernel_rfl) (by kernel_rfl) (fun _ _ _ h => h) (Or.inl ⟨by rfl, ?_⟩) hHeld ?_
      · (intro u _; go_simp)
      (try simp only [Act.put, List.setIfInBounds_toArray, List.set_cons_zero, List.set_cons_succ])
      refine L4.late_done (by kernel_rfl) ?_ _
      clear hHeld KEEP
      have HB2 : Hid (Below w.heap.size w y2) := HB.out.trans (B.mono HB.out.size)
      clear B hx2 hy2 HXR HYR HB
      go_wp2
      go_roundg (vn - (i + 1))
      case measure => omega
      case rel => exact ⟨i + 1, by first | rfl | go_num, by omega, Nat.le_refl _, HB2⟩
    · have hltz : ¬ (i : Int) < (vn : Int) := by omega
      go_wp2
      go_ret
      exact ⟨rfl, HB.out⟩
end Go.Proofs.Ytmgbhbdcnciccaa
