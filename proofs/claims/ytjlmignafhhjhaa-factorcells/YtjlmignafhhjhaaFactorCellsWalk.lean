/-
  Proved here: FactorCells' walk.
-/
import Derived.Test.YtjlmignafhhjhaaFacInAll
namespace Go.Proofs.Ytjlmignafhhjhaa
set_option linter.unusedVariables false
open Go.RowKit Go.Shelf Go.Lib Go.Sort
set_option maxRecDepth 100000 in
set_option maxHeartbeats 12800000 in
theorem factorCells_top (s0 z0 c0 : Value) (xs0 zs0 cs0 : List Int) (s1 z1 c1 : Value) (xs1 zs1 cs1 : List Int) (pl_ : Int) (w : World) (hs0 : RK .i64 w s0 xs0) (hz0_ : RK .i64 w z0 zs0) (hc0 : RK .i64 w c0 cs0) (hs1 : RK .i64 w s1 xs1) (hz1_ : RK .i64 w z1 zs1) (hc1 : RK .i64 w c1 cs1) (hpl : Lit.wf (.int .i64 pl_)) :
    Calls Try.prog 7 #[.agg #[s0, z0, c0], .agg #[s1, z1, c1], .int .i64 pl_] w fun e w' => e = .returned (.bool true) ∧ Below w.heap.size w w' := by
  have hplb : -9223372036854775808 ≤ pl_ ∧ pl_ ≤ 9223372036854775807 := by
    have := hpl
    simp [Lit.wf, min_i64] at this
    omega
  have HS0 : Hid (RK .i64 w s0 xs0) := hs0
  have HC0 : Hid (RK .i64 w c0 cs0) := hc0
  have HS1 : Hid (RK .i64 w s1 xs1) := hs1
  have HC1 : Hid (RK .i64 w c1 cs1) := hc1
  obtain ⟨W1, hW1⟩ : ∃ W1, W1 = (w.alloc (.cells #[s0, z0, c0] 34)).alloc (.cells #[s1, z1, c1] 34) := ⟨_, rfl⟩
  obtain ⟨g, hg⟩ : ∃ g, g = w.heap.size := ⟨_, rfl⟩
  have HQa : Hid (BCell 34 W1 g s0 z0 c0) := by show BCell _ _ _ _ _ _; rw [hW1]; exact (BCell.new w hg.symm).step _
  have HQb : Hid (BCell 34 W1 (g + 1) s1 z1 c1) := by show BCell _ _ _ _ _ _; rw [hW1]; exact BCell.new _ (by simp [hg])
  have HB : Hid (Below w.heap.size w W1) := by show Below _ _ _; rw [hW1]; exact bstepB (belowB w _) (belowB _ _)
  have HG : Hid (g = w.heap.size) := hg
  have HW1 : Hid (W1 = (w.alloc (.cells #[s0, z0, c0] 34)).alloc (.cells #[s1, z1, c1] 34)) := hW1
  clear hW1 hg hs0 hc0 hs1 hc1 hz0_ hz1_ hpl
  go_enter Try.func7, Try.ntmps7
  go_upto_region 1 with fail
  rw [← HG.out, ← HW1.out]
  clear HW1
  have CA : Hid _ := aliveF W1
  go_wp2_with fail
  refine Calls.mono CA.out ?_
  rintro e X9 ⟨rfl, b9⟩
  clear CA
  have HB9 : Hid (Below w.heap.size w X9) := bstepB HB.out b9
  have HQa9 : Hid (BCell 34 X9 g s0 z0 c0) := HQa.out.below b9
  have HQb9 : Hid (BCell 34 X9 (g + 1) s1 z1 c1) := HQb.out.below b9
  clear b9 HQa HQb HB
  go_upto_region 2 with fail
  obtain ⟨ca0, ca1, ca2⟩ := HQa9.out.cells
  have C0 : Hid _ := mended_any s0 z0 c0 xs0 cs0 X9 (HS0.out.rg.below (Nat.le_refl _) HB9.out) (HC0.out.rg.below (Nat.le_refl _) HB9.out) HS0.out.bd
  go_wp2_with fail
  refine Calls.mono C0.out ?_
  rintro e y0 ⟨x1o, x1n, x1c, x2o, x2n, x2c, x3o, x3n, x3c, V1, C1, rfl, hx1, hx2, hx3, hx4, hx5, hx6, hx7, hx8, b0⟩
  clear C0
  obtain ⟨X0, hX0⟩ : ∃ u, u = y0.alloc (.cells #[.slice x1o x1n x1c, .slice x2o x2n x2c, .slice x3o x3n x3c] 34) := ⟨_, rfl⟩
  obtain ⟨gx, hgx⟩ : ∃ u, u = y0.heap.size := ⟨_, rfl⟩
  have bb0 : Below y0.heap.size y0 X0 := by rw [hX0]; exact belowB _ _
  have HQx : Hid (BCell 34 X0 gx (.slice x1o x1n x1c) (.slice x2o x2n x2c) (.slice x3o x3n x3c)) := by show BCell _ _ _ _ _ _; rw [hX0]; exact BCell.new _ hgx.symm
  have HRx : Hid (RG (Value.int .i64) X0 (.slice x1o x1n x1c) V1 ∧ RG (Value.int .i64) X0 (.slice x2o x2n x2c) (V1.map szm) ∧ RG (Value.int .i64) X0 (.slice x3o x3n x3c) C1) := ⟨hx1.below (Nat.le_refl _) bb0, hx2.below (Nat.le_refl _) bb0, hx3.below (Nat.le_refl _) bb0⟩
  have HFx : Hid (Rise V1 ∧ (∀ x ∈ V1, 0 ≤ x ∧ x < 8) ∧ V1.length ≤ 8 ∧ (C1.length : Int) = pr (V1.map szm)) := ⟨hx4, hx5, hx6, hx7⟩
  have HBx : Hid (Below X9.heap.size X9 X0) := bstepB b0 bb0
  have HX0 : Hid (X0 = y0.alloc (.cells #[.slice x1o x1n x1c, .slice x2o x2n x2c, .slice x3o x3n x3c] 34)) := hX0
  have HGx : Hid (gx = y0.heap.size) := hgx
  clear hX0 hgx b0 bb0 hx1 hx2 hx3 hx4 hx5 hx6 hx7 hx8
  go_upto_region 3 with fail
  rw [← HX0.out, ← HGx.out]
  clear HX0 HGx
  clear ca0 ca1 ca2
  have HBA : Hid (Below w.heap.size w X0) := bstepB HB9.out HBx.out
  obtain ⟨ca0, ca1, ca2⟩ := (HQb9.out.below HBx.out).cells
  have C1 : Hid _ := mended_any s1 z1 c1 xs1 cs1 X0 (HS1.out.rg.below (Nat.le_refl _) HBA.out) (HC1.out.rg.below (Nat.le_refl _) HBA.out) HS1.out.bd
  go_wp2_with fail
  refine Calls.mono C1.out ?_
  rintro e y1 ⟨y1o, y1n, y1c, y2o, y2n, y2c, y3o, y3n, y3c, V2, C2, rfl, hy1, hy2, hy3, hy4, hy5, hy6, hy7, hy8, b1⟩
  clear C1
  obtain ⟨X1, hX1⟩ : ∃ u, u = y1.alloc (.cells #[.slice y1o y1n y1c, .slice y2o y2n y2c, .slice y3o y3n y3c] 34) := ⟨_, rfl⟩
  obtain ⟨gy, hgy⟩ : ∃ u, u = y1.heap.size := ⟨_, rfl⟩
  have bb1 : Below y1.heap.size y1 X1 := by rw [hX1]; exact belowB _ _
  have HQy : Hid (BCell 34 X1 gy (.slice y1o y1n y1c) (.slice y2o y2n y2c) (.slice y3o y3n y3c)) := by show BCell _ _ _ _ _ _; rw [hX1]; exact BCell.new _ hgy.symm
  have HRy : Hid (RG (Value.int .i64) X1 (.slice y1o y1n y1c) V2 ∧ RG (Value.int .i64) X1 (.slice y2o y2n y2c) (V2.map szm) ∧ RG (Value.int .i64) X1 (.slice y3o y3n y3c) C2) := ⟨hy1.below (Nat.le_refl _) bb1, hy2.below (Nat.le_refl _) bb1, hy3.below (Nat.le_refl _) bb1⟩
  have HFy : Hid (Rise V2 ∧ (∀ x ∈ V2, 0 ≤ x ∧ x < 8) ∧ V2.length ≤ 8 ∧ (C2.length : Int) = pr (V2.map szm)) := ⟨hy4, hy5, hy6, hy7⟩
  have HBy : Hid (Below X0.heap.size X0 X1) := bstepB b1 bb1
  have HX1 : Hid (X1 = y1.alloc (.cells #[.slice y1o y1n y1c, .slice y2o y2n y2c, .slice y3o y3n y3c] 34)) := hX1
  have HGy : Hid (gy = y1.heap.size) := hgy
  clear hX1 hgy b1 bb1 hy1 hy2 hy3 hy4 hy5 hy6 hy7 hy8
  go_upto_region 4 with fail
  rw [← HX1.out, ← HGy.out]
  clear HX1 HGy
  clear ca0 ca1 ca2 HS0 HC0 HS1 HC1 HQa9 HQb9
  have HBB : Hid (Below w.heap.size w X1) := bstepB HBA.out HBy.out
  have HQx1 : Hid (BCell 34 X1 gx (.slice x1o x1n x1c) (.slice x2o x2n x2c) (.slice x3o x3n x3c)) := HQx.out.below HBy.out
  have HRx1 : Hid (RG (Value.int .i64) X1 (.slice x1o x1n x1c) V1 ∧ RG (Value.int .i64) X1 (.slice x2o x2n x2c) (V1.map szm) ∧ RG (Value.int .i64) X1 (.slice x3o x3n x3c) C1) := ⟨HRx.out.1.below (Nat.le_refl _) HBy.out, HRx.out.2.1.below (Nat.le_refl _) HBy.out, HRx.out.2.2.below (Nat.le_refl _) HBy.out⟩
  clear HQx HRx HBA HBx HBy HB9
  obtain ⟨f1, f2, f3, f4⟩ := HFx.out
  obtain ⟨e1, e2, e3, e4⟩ := HFy.out
  have hV : ∀ V : List Int, (∀ x ∈ V, 0 ≤ x ∧ x < 8) → ∀ q ∈ V, -9223372036854775808 ≤ q ∧ q ≤ 9223372036854775807 := fun V h q hq => by have := h q hq; omega
  have hZ : ∀ V : List Int, ∀ q ∈ V.map szm, -9223372036854775808 ≤ q ∧ q ≤ 9223372036854775807 := fun V q hq => by have := szm_ones V q hq; omega
  have hT1 := mend_tab f1 f2 f3 f4
  have hT2 := mend_tab e1 e2 e3 e4
  have CT := timesI muZ 56 130 mIntsMulF nlIntsMulF entIntsMulF intsMulF (.slice x1o x1n x1c) (.slice x2o x2n x2c) (.slice x3o x3n x3c) (.slice y1o y1n y1c) (.slice y2o y2n y2c) (.slice y3o y3n y3c) V1 (V1.map szm) V2 (V2.map szm) C1 C2 X1
    (HRx1.out.1.bd (hV V1 f2)) (HRx1.out.2.1.bd (hZ V1)) HRx1.out.2.2 (HRy.out.1.bd (hV V2 e2)) (HRy.out.2.1.bd (hZ V2)) HRy.out.2.2 hT1 hT2 (by omega) (by omega) (mend_clash V1 V2)
  have HCT : Hid _ := CT
  have HTT : Hid (Tab V1 (V1.map szm) C1.length ∧ Tab V2 (V2.map szm) C2.length) := ⟨hT1, hT2⟩
  have HVZ : Hid ((∀ V : List Int, (∀ x ∈ V, 0 ≤ x ∧ x < 8) → ∀ q ∈ V, -9223372036854775808 ≤ q ∧ q ≤ 9223372036854775807) ∧ (∀ V : List Int, ∀ q ∈ V.map szm, -9223372036854775808 ≤ q ∧ q ≤ 9223372036854775807)) := ⟨hV, hZ⟩
  obtain ⟨U, hU⟩ : ∃ U, joinR V1 V2 = U := ⟨_, rfl⟩
  have hUR : Rise U := by rw [← hU]; exact rise_joinR V2 f1
  have hUM : ∀ x ∈ U, 0 ≤ x ∧ x < 8 := by rw [← hU]; exact fun x hx => by rcases (mem_joinR V2 V1 x).1 hx with h | h; exact f2 x h; exact e2 x h
  have hU8 : U.length ≤ 8 := rise_len 8 U 0 hUR fun x hx => by have := hUM x hx; omega
  obtain ⟨S, hS⟩ : ∃ S, U.map szm = S := ⟨_, rfl⟩
  have hSj : jS V1 (V1.map szm) V2 (V2.map szm) = S := by rw [mend_jS, hU, hS]
  have hSl : S.length = U.length := by rw [← hS]; simp
  have hS1 : ∀ q ∈ S, 1 ≤ q ∧ q ≤ 3 := by rw [← hS]; exact szm_ones U
  have hSp : 1 ≤ pr S ∧ pr S ≤ 6561 := by rw [← hS]; have := pr_szm U; have := pow_le8 _ hU8; omega
  have hsl1 : sel (mask U V1) S = V1.map szm := by rw [← hSj, ← hU]; exact jS_left f1 e1 (by simp) hT1.ones hT2.ones (mend_clash V1 V2)
  have hsl2 : sel (mask U V2) S = V2.map szm := by rw [← hSj, ← hU]; exact jS_right f1 e1 (by simp) hT1.ones hT2.ones (mend_clash V1 V2)
  obtain ⟨N, hN⟩ : ∃ N : Nat, pr S = (N : Int) := ⟨(pr S).toNat, by omega⟩
  have hNt : (pr S).toNat = N := by omega
  have hN1 : 1 ≤ N := by omega
  have hN2 : N ≤ 6561 := by omega
  have HU : Hid (joinR V1 V2 = U ∧ jS V1 (V1.map szm) V2 (V2.map szm) = S ∧ (pr S).toNat = N) := ⟨hU, hSj, hNt⟩
  have HSU : Hid (U.map szm = S) := hS
  have HUS : Hid (Rise U ∧ (∀ x ∈ U, 0 ≤ x ∧ x < 8) ∧ U.length ≤ 8 ∧ S.length = U.length ∧ (∀ q ∈ S, 1 ≤ q ∧ q ≤ 3) ∧ pr S = (N : Int) ∧ sel (mask U V1) S = V1.map szm ∧ sel (mask U V2) S = V2.map szm ∧ (∀ v ∈ V1, v ∈ U) ∧ (∀ v ∈ V2, v ∈ U)) := ⟨hUR, hUM, hU8, hSl, hS1, hN, hsl1, hsl2, fun v hv => by rw [← hU]; exact (mem_joinR V2 V1 v).2 (.inl hv), fun v hv => by rw [← hU]; exact (mem_joinR V2 V1 v).2 (.inr hv)⟩
  clear CT f1 f2 f3 f4 e1 e2 e3 e4 hV hZ hT1 hT2 hU hUR hUM hU8 hS hSj hSl hS1 hSp hsl1 hsl2 hN hNt
  obtain ⟨cx0, cx1, cx2⟩ := HQx1.out.cells
  obtain ⟨cy0, cy1, cy2⟩ := HQy.out.cells
  go_wp2_with fail
  refine Calls.mono HCT.out ?_
  rintro e y3 ⟨b3, hcase⟩
  clear HCT cx0 cx1 cx2 cy0 cy1 cy2
  rw [HU.out.1, HU.out.2.1, HU.out.2.2] at hcase
  rcases hcase with ⟨hbig, -⟩ | ⟨-, u, gz, gc, rfl, hUo, hZo, hCo, l1, l2, n1, n2, n3⟩
  · exact absurd hbig (by have := HUS.out.2.2.2.2.2.1; omega)
  obtain ⟨uo, un, uc, hue⟩ : ∃ o n c, u = .slice o n c := by obtain ⟨ao, cap, e, -⟩ := hUo.sl; exact ⟨_, _, _, e⟩
  subst hue
  obtain ⟨n, hn⟩ : ∃ n, U.length = n := ⟨_, rfl⟩
  rw [hn]
  have hn8 : n ≤ 8 := by rw [← hn]; exact HUS.out.2.2.1
  have HNn : Hid (U.length = n ∧ S.length = n) := ⟨hn, HUS.out.2.2.2.1.trans hn⟩
  obtain ⟨X3, hX3⟩ : ∃ u, u = y3.alloc (.cells #[.slice uo un uc, .slice (some ⟨gz, 0, none⟩) n n, .slice (some ⟨gc, 0, none⟩) N N] 34) := ⟨_, rfl⟩
  obtain ⟨gp, hgp⟩ : ∃ u, u = y3.heap.size := ⟨_, rfl⟩
  have bb3 : Below y3.heap.size y3 X3 := by rw [hX3]; exact belowB _ _
  have b13 : Below X1.heap.size X1 X3 := bstepB b3 bb3
  obtain ⟨PL, hPL⟩ : ∃ PL, prodL muZ 0 U S V1 V2 C1 C2 = PL := ⟨_, rfl⟩
  rw [hPL] at hCo
  have HPL : Hid (prodL muZ 0 U S V1 V2 C1 C2 = PL ∧ PL.length = N) := ⟨hPL, by rw [← hPL, prodL_len]; exact HU.out.2.2⟩
  have HQp : Hid (BCell 34 X3 gp (.slice uo un uc) (.slice (some ⟨gz, 0, none⟩) n n) (.slice (some ⟨gc, 0, none⟩) N N)) := by show BCell _ _ _ _ _ _; rw [hX3]; exact BCell.new _ hgp.symm
  have HRU : Hid (RK .i64 X3 (.slice uo un uc) U) := (hUo.below bb3).rk (HVZ.out.1 U HUS.out.2.1)
  have HRS : Hid (X3.heap[gz]? = some (.cells (S.map (Value.int .i64)).toArray 3 (0, 0))) := (bb3.block gz (Array.getElem?_eq_some_iff.1 hZo).1).trans hZo
  have HRC : Hid (X3.heap[gc]? = some (.cells (PL.map (Value.int .i64)).toArray 3 (0, 0))) := (bb3.block gc (Array.getElem?_eq_some_iff.1 hCo).1).trans hCo
  have HBp : Hid (Below w.heap.size w X3) := bstepB HBB.out b13
  have HQx3 : Hid (BCell 34 X3 gx (.slice x1o x1n x1c) (.slice x2o x2n x2c) (.slice x3o x3n x3c)) := HQx1.out.below b13
  have HQy3 : Hid (BCell 34 X3 gy (.slice y1o y1n y1c) (.slice y2o y2n y2c) (.slice y3o y3n y3c)) := HQy.out.below b13
  have HRx3 : Hid (RG (Value.int .i64) X3 (.slice x1o x1n x1c) V1 ∧ RG (Value.int .i64) X3 (.slice x2o x2n x2c) (V1.map szm) ∧ RG (Value.int .i64) X3 (.slice x3o x3n x3c) C1) := ⟨HRx1.out.1.below (Nat.le_refl _) b13, HRx1.out.2.1.below (Nat.le_refl _) b13, HRx1.out.2.2.below (Nat.le_refl _) b13⟩
  have HRy3 : Hid (RG (Value.int .i64) X3 (.slice y1o y1n y1c) V2 ∧ RG (Value.int .i64) X3 (.slice y2o y2n y2c) (V2.map szm) ∧ RG (Value.int .i64) X3 (.slice y3o y3n y3c) C2) := ⟨HRy.out.1.below (Nat.le_refl _) b13, HRy.out.2.1.below (Nat.le_refl _) b13, HRy.out.2.2.below (Nat.le_refl _) b13⟩
  have HX3 : Hid (X3 = y3.alloc (.cells #[.slice uo un uc, .slice (some ⟨gz, 0, none⟩) n n, .slice (some ⟨gc, 0, none⟩) N N] 34)) := hX3
  have HGp : Hid (gp = y3.heap.size) := hgp
  clear hX3 hgp b3 bb3 b13 hUo hZo hCo l1 l2 n1 n2 n3 HBB HQx1 HQy HRx1 HRy hn hPL HU
  go_upto_region 5 with fail
  rw [← HX3.out, ← HGp.out]
  clear HX3 HGp
  obtain ⟨cp0, cp1, cp2⟩ := HQp.out.cells
  have hNb : ((N : Int) == 0) = false := by simp; omega
  have hNn : ¬ N = 0 := by omega
  go_upto_region 7 with fail
  have KEEP : ∀ u, Below X3.heap.size X3 u → L4.AllL u [(3, fun w' => w'.cell? ⟨gp, 2, none⟩ = some (.slice (some ⟨gc, 0, none⟩) N N))] := fun u hu => ⟨keepR hu cp2, trivial⟩
  refine L4.region_late [(3, fun w' => w'.cell? ⟨gp, 2, none⟩ = some (.slice (some ⟨gc, 0, none⟩) N N))] (by kernel_rfl) ?_
  have B : Below X3.heap.size X3 X3.drew := (Below.refl _ _).drew
  obtain ⟨w1, hw1⟩ : ∃ u, u = X3.drew := ⟨_, rfl⟩
  rw [← hw1] at B ⊢
  clear hw1
  have hHeld := KEEP _ B
  refine L4.late_free 0 (v := .int .i64 pl_) rfl (by kernel_rfl) (by kernel_rfl) (by kernel_rfl) (by kernel_rfl) (by kernel_rfl) (by kernel_rfl) (fun _ _ _ h => h) (Or.inl ⟨by rfl, ?_⟩) hHeld ?_
  · (intro u _; go_simp)
  (try simp only [Act.put, List.setIfInBounds_toArray, List.set_cons_zero, List.set_cons_succ])
  refine L4.late_free 2 (v := .pointer (some ⟨gp, 2, none⟩)) rfl (by kernel_rfl) (by kernel_rfl) (by kernel_rfl) (by kernel_rfl) (by kernel_rfl) (by kernel_rfl) (fun _ _ _ h => h) (Or.inl ⟨by rfl, ?_⟩) hHeld ?_
  · (intro u _; go_simp)
  (try simp only [Act.put, List.setIfInBounds_toArray, List.set_cons_zero, List.set_cons_succ])
  refine L4.late_take 3 (v := .slice (some ⟨gc, 0, none⟩) N N) rfl (by kernel_rfl) (List.Mem.head _) (by kernel_rfl) (by kernel_rfl) (by kernel_rfl) (by kernel_rfl) (fun _ _ _ h => h) (Or.inl ⟨by rfl, ?_⟩) hHeld ?_
  · (intro u hu; (try dsimp only at hu); go_split_ands; go_simp)
  (try simp only [Act.put, List.setIfInBounds_toArray, List.set_cons_zero, List.set_cons_succ])
  refine L4.late_free 4 (v := .int .i64 ((N : Nat) : Int)) rfl (by kernel_rfl) (by kernel_rfl) (by kernel_rfl) (by kernel_rfl) (by kernel_rfl) (by kernel_rfl) (fun _ _ _ h => h) (Or.inl ⟨by rfl, ?_⟩) hHeld ?_
  · (intro u _; go_simp)
  (try simp only [Act.put, List.setIfInBounds_toArray, List.set_cons_zero, List.set_cons_succ])
  refine L4.late_step 1 (by kernel_rfl) rfl (fun K hK => ?_)
  go_simp
  refine (absF pl_ _ hplb.1 hplb.2).mono ?_
  rintro e y22 ⟨ka, rfl, hka, hwa⟩
  have c2 : Below w1.heap.size w1 y22 := by rw [hwa]; exact Below.refl _ _
  clear hwa
  obtain ⟨j, hj⟩ : ∃ j : Nat, ka % N = j := ⟨_, rfl⟩
  have hjN : j < N := by rw [← hj]; exact Nat.mod_lt _ (by omega)
  have htm : (ka : Int).tmod (N : Int) = (j : Int) := by rw [Int.tmod_eq_emod_of_nonneg (by omega), ← hj]; omega
  have hwj : IntKind.i64.wrap (j : Int) = (j : Int) := by rw [IntKind.wrap_i64]; omega
  clear hj
  have B := B.trans (c2.mono B.size)
  clear c2 hHeld
  have hHeld := KEEP _ B
  go_wp2_with fail
  refine hK.out _ _ (L4.AllL.kept hHeld) ?_
  clear hK K
  (try simp only [Act.put, List.setIfInBounds_toArray, List.set_cons_zero, List.set_cons_succ])
  refine L4.late_free 5 (v := .int .i64 ((j : Nat) : Int)) rfl (by kernel_rfl) (by kernel_rfl) (by kernel_rfl) (by kernel_rfl) (by kernel_rfl) (by kernel_rfl) (fun _ _ _ h => h) (Or.inl ⟨by rfl, ?_⟩) hHeld ?_
  · (intro u _; go_simp)
  (try simp only [Act.put, List.setIfInBounds_toArray, List.set_cons_zero, List.set_cons_succ])
  refine L4.late_step 6 (by kernel_rfl) rfl (fun K hK => ?_)
  go_simp
  refine hK.out _ _ (L4.AllL.kept hHeld) ?_
  clear hK K
  (try simp only [Act.put, List.setIfInBounds_toArray, List.set_cons_zero, List.set_cons_succ])
  refine L4.late_done (by kernel_rfl) ?_ _
  clear hHeld KEEP
  obtain ⟨Y0, hY0⟩ : ∃ u, u = y22 := ⟨_, rfl⟩
  rw [← hY0] at B ⊢
  have HB0 : Hid (Below X3.heap.size X3 Y0) := B
  clear hY0 B cp0 cp1 cp2 hNb hNn htm hwj hka
  obtain ⟨cp0, cp1, cp2⟩ := (HQp.out.below HB0.out).cells
  obtain ⟨hul1, hul2⟩ : un = n ∧ n ≤ 9223372036854775807 := by
    obtain ⟨ao, cap, e, -⟩ := HRU.out
    simp only [Value.slice.injEq] at e
    exact ⟨e.2.1.trans HNn.out.1, by omega⟩
  subst hul1
  obtain ⟨i0, hi, hz0, hz1', hz2'⟩ := info_parts infoI
  go_upto_region 9 with (at_make; refine wpList_made _ rfl _ _ 22 rfl 3 i0 (.int .i64 0) rfl Try.underlying22 hi hz0 hz1' _ _ un rfl rfl (by rw [hz2']; omega) (by omega) ?_)
  obtain ⟨Y1, hY1⟩ : ∃ u, u = Y0.alloc (.cells (Array.replicate un (.int .i64 0)) 3) := ⟨_, rfl⟩
  obtain ⟨gv, hgv⟩ : ∃ u, u = Y0.heap.size := ⟨_, rfl⟩
  rw [← hY1, ← hgv]
  have b01 : Below Y0.heap.size Y0 Y1 := by rw [hY1]; exact belowB _ _
  have HBY : Hid (Below X3.heap.size X3 Y1) := bstepB HB0.out b01
  have HV0 : Hid (Y1.heap[gv]? = some (.cells ((rowK S (j : Int) 0).map (Value.int .i64)).toArray 3 (0, 0))) := by show _ = _; rw [hY1, hgv, rowK_zero, HNn.out.2, map_rep]; exact heap_alloc_new _ _
  have hgvl : X3.heap.size ≤ gv ∧ gv < Y1.heap.size := ⟨by rw [hgv]; exact HB0.out.size, by rw [hY1, hgv]; simp⟩
  clear hY1 hgv b01 cp0 cp1 cp2 HB0
  have HOL : Hid (∀ W, GrS Y1 W [gv] → Below X3.heap.size X3 W) := fun W h => HBY.out.trans (h.below (by simp; omega) HBY.out.size)
  have hwn : IntKind.i64.wrap ((un : Int) - 1) = (un : Int) - 1 := by rw [IntKind.wrap_i64]; omega
  obtain ⟨cp0, cp1, cp2⟩ := (HQp.out.below HBY.out).cells
  go_wp2
  clear cp0 cp1 cp2 hwn
  go_loopg [14, 15] un (fun g1 v14 v15 wr => ∃ (k : Nat) (q : Int), v15 = .int .i64 ((un : Int) - 1 - k) ∧ v14 = .int .i64 q ∧ k ≤ un ∧ un - k ≤ g1 ∧ Hid (q = (j : Int) / pr (S.drop (un - k))) ∧ Hid (wr.heap[gv]? = some (.cells ((rowK S (j : Int) k).map (Value.int .i64)).toArray 3 (0, 0)) ∧ GrS Y1 wr [gv]))
  case atStart => exact ⟨0, (j : Int), by simp, rfl, by omega, by omega, by show (j : Int) = (j : Int) / pr (S.drop (un - 0)); rw [Nat.sub_zero, List.drop_of_length_le (by rw [HNn.out.2]; exact Nat.le_refl _)]; simp [pr], HV0.out, GrS.refl _ _⟩
  case round =>
    clear HV0
    obtain ⟨k, q, rfl, rfl, hkn, hg1, HQ, HI⟩ := hrel
    by_cases hlt : k < un
    · obtain ⟨i, hik⟩ : ∃ i, un - 1 - k = i := ⟨_, rfl⟩
      have hiz : (un : Int) - 1 - (k : Int) = (i : Int) := by omega
      rw [hiz]
      have hin : i < un := by omega
      have hinz : (i : Int) < (un : Int) := by omega
      have hge : (0 : Int) ≤ (i : Int) := by omega
      have hone : ∀ z ∈ S, 1 ≤ z := fun z hz => (HUS.out.2.2.2.2.1 z hz).1
      have hiS : i < S.length := by rw [HNn.out.2]; exact hin
      have bX := HOL.out _ HI.out.2
      obtain ⟨cp0, cp1, cp2⟩ := (HQp.out.below bX).cells
      have cS : wr.cell? ⟨gz, i, none⟩ = some (.int .i64 (S.getD i 0)) := keepR bX (row_cell HRS.out hiS)
      have hx1 : 1 ≤ S.getD i 0 ∧ S.getD i 0 ≤ 3 := by rw [List.getD_eq_getElem?_getD, List.getElem?_eq_getElem hiS]; exact HUS.out.2.2.2.2.1 _ (List.getElem_mem hiS)
      have hrl : i < (rowK S (j : Int) k).length := by rw [rowK_len]; exact hiS
      have cv := row_cell HI.out.1 hrl
      have fv : wr.frozen? ⟨gv, i, none⟩ = false := frozen_of_row _ _ _ _ _ HI.out.1
      generalize (rowK S (j : Int) k).getD i 0 = old at cv
      have hqq : q = (j : Int) / pr (S.drop (i + 1)) := by rw [HQ.out, show un - k = i + 1 by omega]
      have hpd := (pr_drop_le S hone (i + 1)).1
      have hq0 : 0 ≤ q := by rw [hqq]; exact Int.ediv_nonneg (by omega) (by omega)
      have hq1 : q ≤ 6561 := by rw [hqq]; exact Int.le_trans (Int.ediv_le_self _ (by omega)) (by omega)
      have hst := rowK_step S (j : Int) k i (by rw [HNn.out.2]; exact hlt) (by rw [HNn.out.2]; exact hik)
      have HNX : Hid ((wr.setCell ⟨gv, i, none⟩ (.int .i64 (q % S.getD i 0))).heap[gv]? = some (.cells ((rowK S (j : Int) (k + 1)).map (Value.int .i64)).toArray 3 (0, 0)) ∧ GrS Y1 (wr.setCell ⟨gv, i, none⟩ (.int .i64 (q % S.getD i 0))) [gv]) := by
        refine ⟨?_, HI.out.2.set (by simp) _ _⟩
        rw [row_set HI.out.1, ← hst, hqq]; rfl
      have HQX : Hid (q / S.getD i 0 = (j : Int) / pr (S.drop (un - (k + 1)))) := by show _ = _; rw [hqq, div_step S _ hone i hiS, show un - (k + 1) = i by omega]
      have hgvz : gz ≠ gv := by have := (Array.getElem?_eq_some_iff.1 HRS.out).1; omega
      have hgvp : gp ≠ gv := by have := HQp.out.lt; omega
      have bX2 := HOL.out _ HNX.out.2
      have cS2 : (wr.setCell ⟨gv, i, none⟩ (.int .i64 (q % S.getD i 0))).cell? ⟨gz, i, none⟩ = some (.int .i64 (S.getD i 0)) := keepR bX2 (row_cell HRS.out hiS)
      obtain ⟨-, cp1', -⟩ := (HQp.out.below bX2).cells
      have HC2 : Hid ((wr.setCell ⟨gv, i, none⟩ (.int .i64 (q % S.getD i 0))).cell? ⟨gz, i, none⟩ = some (.int .i64 (S.getD i 0)) ∧ (wr.setCell ⟨gv, i, none⟩ (.int .i64 (q % S.getD i 0))).cell? ⟨gp, 1, none⟩ = some (.slice (some ⟨gz, 0, none⟩) un un)) := ⟨cS2, cp1'⟩
      clear HI HQ bX bX2 cS2 cp1' hst hqq hpd hone hrl hiz
      generalize S.getD i 0 = x at *
      have hxb : (x == 0) = false := by simp; omega
      have hxn : ¬ x = 0 := by omega
      have htm : q.tmod x = q % x := Int.tmod_eq_emod_of_nonneg hq0
      have htd : q.tdiv x = q / x := Int.tdiv_eq_ediv_of_nonneg hq0
      have hm0 : 0 ≤ q % x := Int.emod_nonneg _ (by omega)
      have hm1 : q % x < x := Int.emod_lt_of_pos _ (by omega)
      have hw1 : IntKind.i64.wrap (q % x) = q % x := by rw [IntKind.wrap_i64]; omega
      have hd0 : 0 ≤ q / x := Int.ediv_nonneg hq0 (by omega)
      have hd1 : q / x ≤ 6561 := Int.le_trans (Int.ediv_le_self _ hq0) hq1
      have hw2 : IntKind.i64.wrap (q / x) = q / x := by rw [IntKind.wrap_i64]; omega
      have hw3 : IntKind.i64.wrap ((i : Int) - 1) = (i : Int) - 1 := by rw [IntKind.wrap_i64]; omega
      have HIK : Hid ((i : Int) - 1 = (un : Int) - 1 - ((k + 1 : Nat) : Int)) := by show _ = _; omega
      go_upto_region 14 with fail
      obtain ⟨Y2, hY2⟩ : ∃ u, u = wr.setCell ⟨gv, i, none⟩ (.int .i64 (q % x)) := ⟨_, rfl⟩
      rw [← hY2] at HNX HC2 ⊢
      clear hY2 cS cv fv cp0 cp1 cp2
      obtain ⟨cS2, cp1'⟩ := HC2.out
      clear HC2
      go_wp2
      go_roundg (un - (k + 1))
      case measure => omega
      case rel => exact ⟨k + 1, q / x, by rw [← HIK.out], rfl, by omega, Nat.le_refl _, HQX, HNX⟩
    · have hke : k = un := by omega
      subst hke
      have hlt0 : ¬ (0 : Int) ≤ (k : Int) - 1 - (k : Int) := by omega
      have bX := HOL.out _ HI.out.2
      have HBX : Hid (Below X3.heap.size X3 wr) := bX
      have hrf := rowK_full S (j : Int)
      rw [HNn.out.2] at hrf
      have HVV : Hid (wr.heap[gv]? = some (.cells ((dgs S (j : Int)).map (Value.int .i64)).toArray 3 (0, 0))) := by show _ = _; rw [HI.out.1, hrf]
      have hone : ∀ z ∈ S, 1 ≤ z := fun z hz => (HUS.out.2.2.2.2.1 z hz).1
      have hdig := dgs_dig S (j : Int) hone
      have hjp : (j : Int) < pr S := by rw [HUS.out.2.2.2.2.2.1]; omega
      have hplb2 := pl_back S (j : Int) hone (by omega) hjp
      have hdl : (dgs S (j : Int)).length = k := by rw [dgs_len]; exact HNn.out.2
      have hdb : ∀ q ∈ dgs S (j : Int), -9223372036854775808 ≤ q ∧ q ≤ 9223372036854775807 := fun q hq => by
        obtain ⟨i, hi, e⟩ := List.mem_iff_getElem.1 hq
        have hiS : i < S.length := by rw [HNn.out.2, ← hdl]; exact hi
        have h1 := hdig.2 i hiS
        have h2 : S.getD i 0 ≤ 3 := by rw [List.getD_eq_getElem?_getD, List.getElem?_eq_getElem hiS]; exact (HUS.out.2.2.2.2.1 _ (List.getElem_mem hiS)).2
        rw [List.getD_eq_getElem?_getD (l := dgs S (j : Int)), List.getElem?_eq_getElem hi, Option.getD_some, e] at h1
        omega
      have hRV : RK .i64 wr (.slice (some ⟨gv, 0, none⟩) k k) (dgs S (j : Int)) := by have := rk_heap HVV.out (by unfold maxLen; omega) hdb; rw [hdl] at this; exact this
      have hRS : RK .i64 wr (.slice (some ⟨gz, 0, none⟩) k k) S := by
        have := rk_heap ((bX.block gz (Array.getElem?_eq_some_iff.1 HRS.out).1).trans HRS.out) (by unfold maxLen; rw [HNn.out.2]; omega) (fun q hq => by have := HUS.out.2.2.2.2.1 q hq; omega)
        rw [HNn.out.2] at this; exact this
      have hRC : RG (Value.int .i64) wr (.slice (some ⟨gc, 0, none⟩) N N) PL := by
        have := (own_heap ((bX.block gc (Array.getElem?_eq_some_iff.1 HRC.out).1).trans HRC.out) (B := 0) (by unfold maxLen; rw [HPL.out.2]; omega) (Nat.zero_le _)).rg
        rw [HPL.out.2] at this; exact this
      have hTP : Tab U S PL.length := ⟨HUS.out.2.2.2.1, by
        have h1 := okS_mend U (-1) HUS.out.1 fun x hx => by have := HUS.out.2.1 x hx; omega
        rw [HSU.out] at h1; exact h1, by rw [HUS.out.2.2.2.2.2.1]; omega, by rw [HPL.out.2]; exact HUS.out.2.2.2.2.2.1⟩
      have C5 := cellF (.slice uo k uc) (.slice (some ⟨gz, 0, none⟩) k k) (.slice (some ⟨gc, 0, none⟩) N N) (.slice (some ⟨gv, 0, none⟩) k k) U S PL (dgs S (j : Int)) wr (HRU.out.below (Nat.le_refl _) bX) hRS hRC hRV hTP (by rw [dgs_len]) (dig_bad hdig)
      rw [hplb2, Int.toNat_natCast] at C5
      have hjPL : j < PL.length := by rw [HPL.out.2]; exact hjN
      obtain ⟨pc, hpc⟩ : ∃ pc, PL[j]? = some pc := ⟨_, List.getElem?_eq_getElem hjPL⟩
      rw [List.getD_eq_getElem?_getD, hpc, Option.getD_some] at C5
      have HC5 : Hid _ := C5
      obtain ⟨p1, p2⟩ := pos_bd hone HUS.out.2.2.2.2.2.2.1 (j : Int)
      obtain ⟨p3, p4⟩ := pos_bd hone HUS.out.2.2.2.2.2.2.2.1 (j : Int)
      obtain ⟨a1, ha1⟩ : ∃ a, C1.getD (pos U S V1 (j : Int)).toNat 0 = a := ⟨_, rfl⟩
      obtain ⟨a2, ha2⟩ : ∃ a, C2.getD (pos U S V2 (j : Int)).toNat 0 = a := ⟨_, rfl⟩
      have HPC : Hid (muZ a1 a2 = pc) := by
        have h1 := hpc
        rw [← HPL.out.1] at h1
        have hNN : (pr S).toNat = N := by rw [HUS.out.2.2.2.2.2.1]; omega
        simp only [prodL, hNN, List.getElem?_map, List.getElem?_range hjN, Option.map_some, Option.some.injEq] at h1
        rw [ha1, ha2] at h1; exact h1
      have hul : RG (Value.int .i64) X3 (.slice uo k uc) U := HRU.out.rg
      have hD1 : ∀ V Z : List Int, Rise V → (∀ v ∈ V, v ∈ U) → sel (mask U V) S = V.map szm → pl (V.map szm) (someL U (dgs S (j : Int)) V) (V.map szm).length = pos U S V (j : Int) ∧ (someL U (dgs S (j : Int)) V).length = (V.map szm).length ∧ bad (V.map szm) (someL U (dgs S (j : Int)) V) = false ∧ (∀ q ∈ someL U (dgs S (j : Int)) V, -9223372036854775808 ≤ q ∧ q ≤ 9223372036854775807) := fun V Z hr hs hsel => by
        have e1 := some_sel U (dgs S (j : Int)) V (by rw [dgs_len]; exact HUS.out.2.2.2.1) HUS.out.1 hr hs
        have e2 := Dig.sel (mask U V) hdig
        rw [hsel, ← e1] at e2
        have e3 := dot_place S (dgs S (j : Int)) (mask U V) (dgs_len _ _) (by rw [mask_len]; exact HUS.out.2.2.2.1)
        refine ⟨?_, e2.1, dig_bad e2, fun q hq => ?_⟩
        · rw [pl_plr _ _ e2.1.symm]; unfold pos; rw [e3, hsel, e1]
        · rw [e1] at hq; exact hdb q (mem_sel hq)
      obtain ⟨g1a, g1b, g1c, g1d⟩ := hD1 V1 [] HFx.out.1 HUS.out.2.2.2.2.2.2.2.2.1 HUS.out.2.2.2.2.2.2.1
      obtain ⟨g2a, g2b, g2c, g2d⟩ := hD1 V2 [] HFy.out.1 HUS.out.2.2.2.2.2.2.2.2.2 HUS.out.2.2.2.2.2.2.2.1
      have HSO : Hid (∀ V vv, RG (Value.int .i64) X3 vv V → V.length ≤ 8 → ∀ X, Below wr.heap.size wr X → Calls Try.prog 32 #[.slice uo k uc, .slice (some ⟨gv, 0, none⟩) k k, vv] X fun e w' => ∃ o n c, e = .returned (.slice o n c) ∧ OG (Value.int .i64) X.heap.size 3 w' (.slice o n c) (someL U (dgs S (j : Int)) V) ∧ Below X.heap.size X w') := fun V vv hvv hV8 X hX => someF _ _ _ U (dgs S (j : Int)) V X (hul.below (Nat.le_refl _) (bstepB bX hX)) (hRV.rg.below (Nat.le_refl _) hX) (hvv.below (Nat.le_refl _) (bstepB bX hX)) (by rw [dgs_len]; exact HUS.out.2.2.2.1) (by have := HUS.out.2.2.1; omega) (by omega)
      have HCE1 : Hid (∀ o n c X, Below X3.heap.size X3 X → OG (Value.int .i64) 0 3 X (.slice o n c) (someL U (dgs S (j : Int)) V1) → Calls Try.prog 31 #[.agg #[.slice x1o x1n x1c, .slice x2o x2n x2c, .slice x3o x3n x3c], .slice o n c] X fun e w' => e = .returned (.tuple #[.int .i64 a1, .int .i64 0]) ∧ Below X.heap.size X w') := fun o n c X hX hO => by
        have := cellF (.slice x1o x1n x1c) (.slice x2o x2n x2c) (.slice x3o x3n x3c) (.slice o n c) V1 (V1.map szm) C1 (someL U (dgs S (j : Int)) V1) X ((HRx3.out.1.below (Nat.le_refl _) hX).bd (HVZ.out.1 V1 HFx.out.2.1)) ((HRx3.out.2.1.below (Nat.le_refl _) hX).bd (HVZ.out.2 V1)) (HRx3.out.2.2.below (Nat.le_refl _) hX) (hO.rk g1d) HTT.out.1 g1b g1c
        rw [g1a, ha1] at this; exact this
      have HCE2 : Hid (∀ o n c X, Below X3.heap.size X3 X → OG (Value.int .i64) 0 3 X (.slice o n c) (someL U (dgs S (j : Int)) V2) → Calls Try.prog 31 #[.agg #[.slice y1o y1n y1c, .slice y2o y2n y2c, .slice y3o y3n y3c], .slice o n c] X fun e w' => e = .returned (.tuple #[.int .i64 a2, .int .i64 0]) ∧ Below X.heap.size X w') := fun o n c X hX hO => by
        have := cellF (.slice y1o y1n y1c) (.slice y2o y2n y2c) (.slice y3o y3n y3c) (.slice o n c) V2 (V2.map szm) C2 (someL U (dgs S (j : Int)) V2) X ((HRy3.out.1.below (Nat.le_refl _) hX).bd (HVZ.out.1 V2 HFy.out.2.1)) ((HRy3.out.2.1.below (Nat.le_refl _) hX).bd (HVZ.out.2 V2)) (HRy3.out.2.2.below (Nat.le_refl _) hX) (hO.rk g2d) HTT.out.2 g2b g2c
        rw [g2a, ha2] at this; exact this
      have HPJ : Hid (X3.cell? ⟨gc, j, none⟩ = some (.int .i64 pc)) := rows_cell (enc := Value.int .i64) HRC.out hpc
      obtain ⟨cp0, cp1, cp2⟩ := (HQp.out.below bX).cells
      clear HI HQ bX hrf hone hdig hplb2 hdb hRV hRS hRC hTP C5 hjPL hpc p1 p2 p3 p4 ha1 ha2 hul hD1 g1a g1b g1c g1d g2a g2b g2c g2d hjp hdl
      go_wp2_with fail
      refine Calls.mono HC5.out ?_
      rintro e Z1 ⟨rfl, bz1⟩
      clear HC5 cp0 cp1 cp2
      have HZ1 : Hid (Below wr.heap.size wr Z1) := bz1
      have HX1 : Hid (Below X3.heap.size X3 Z1) := bstepB HBX.out bz1
      clear bz1
      obtain ⟨cp0, cp1, cp2⟩ := (HQp.out.below HX1.out).cells
      obtain ⟨cx0, cx1, cx2⟩ := (HQx3.out.below HX1.out).cells
      go_upto_region 16 with fail
      have KEEP : ∀ u, Below Z1.heap.size Z1 u → L4.AllL u [(0, fun w' => w'.cell? ⟨gx, 0, none⟩ = some (.slice x1o x1n x1c) ∧ w'.cell? ⟨gx, 1, none⟩ = some (.slice x2o x2n x2c) ∧ w'.cell? ⟨gx, 2, none⟩ = some (.slice x3o x3n x3c)), (2, fun w' => w'.cell? ⟨gp, 0, none⟩ = some (.slice uo k uc)), (5, fun w' => w'.cell? ⟨gx, 0, none⟩ = some (.slice x1o x1n x1c))] := fun u hu => ⟨⟨keepR hu cx0, keepR hu cx1, keepR hu cx2⟩, keepR hu cp0, keepR hu cx0, trivial⟩
      refine L4.region_late [(0, fun w' => w'.cell? ⟨gx, 0, none⟩ = some (.slice x1o x1n x1c) ∧ w'.cell? ⟨gx, 1, none⟩ = some (.slice x2o x2n x2c) ∧ w'.cell? ⟨gx, 2, none⟩ = some (.slice x3o x3n x3c)), (2, fun w' => w'.cell? ⟨gp, 0, none⟩ = some (.slice uo k uc)), (5, fun w' => w'.cell? ⟨gx, 0, none⟩ = some (.slice x1o x1n x1c))] (by kernel_rfl) ?_
      have B : Below Z1.heap.size Z1 Z1.drew := (Below.refl _ _).drew
      obtain ⟨w3, hw3⟩ : ∃ u, u = Z1.drew := ⟨_, rfl⟩
      rw [← hw3] at B ⊢
      clear hw3
      have hHeld := KEEP _ B
      refine L4.late_take 0 (v := .agg #[.slice x1o x1n x1c, .slice x2o x2n x2c, .slice x3o x3n x3c]) rfl (by kernel_rfl) (List.Mem.head _) (by kernel_rfl) (by kernel_rfl) (by kernel_rfl) (by kernel_rfl) (fun _ _ _ h => h) (Or.inl ⟨by rfl, ?_⟩) hHeld ?_
      · (intro u hu; (try dsimp only at hu); go_split_ands; go_simp)
      (try simp only [Act.put, List.setIfInBounds_toArray, List.set_cons_zero, List.set_cons_succ])
      refine L4.late_free 1 (v := .pointer (some ⟨gp, 0, none⟩)) rfl (by kernel_rfl) (by kernel_rfl) (by kernel_rfl) (by kernel_rfl) (by kernel_rfl) (by kernel_rfl) (fun _ _ _ h => h) (Or.inl ⟨by rfl, ?_⟩) hHeld ?_
      · (intro u _; go_simp)
      (try simp only [Act.put, List.setIfInBounds_toArray, List.set_cons_zero, List.set_cons_succ])
      refine L4.late_take 2 (v := .slice uo k uc) rfl (by kernel_rfl) (List.Mem.tail _ (List.Mem.head _)) (by kernel_rfl) (by kernel_rfl) (by kernel_rfl) (by kernel_rfl) (fun _ _ _ h => h) (Or.inl ⟨by rfl, ?_⟩) hHeld ?_
      · (intro u hu; (try dsimp only at hu); go_split_ands; go_simp)
      (try simp only [Act.put, List.setIfInBounds_toArray, List.set_cons_zero, List.set_cons_succ])
      refine L4.late_free 3 (v := .slice (some ⟨gv, 0, none⟩) k k) rfl (by kernel_rfl) (by kernel_rfl) (by kernel_rfl) (by kernel_rfl) (by kernel_rfl) (by kernel_rfl) (fun _ _ _ h => h) (Or.inl ⟨by rfl, ?_⟩) hHeld ?_
      · (intro u _; go_simp)
      (try simp only [Act.put, List.setIfInBounds_toArray, List.set_cons_zero, List.set_cons_succ])
      refine L4.late_free 4 (v := .pointer (some ⟨gx, 0, none⟩)) rfl (by kernel_rfl) (by kernel_rfl) (by kernel_rfl) (by kernel_rfl) (by kernel_rfl) (by kernel_rfl) (fun _ _ _ h => h) (Or.inl ⟨by rfl, ?_⟩) hHeld ?_
      · (intro u _; go_simp)
      (try simp only [Act.put, List.setIfInBounds_toArray, List.set_cons_zero, List.set_cons_succ])
      refine L4.late_take 5 (v := .slice x1o x1n x1c) rfl (by kernel_rfl) (List.Mem.tail _ (List.Mem.tail _ (List.Mem.head _))) (by kernel_rfl) (by kernel_rfl) (by kernel_rfl) (by kernel_rfl) (fun _ _ _ h => h) (Or.inl ⟨by rfl, ?_⟩) hHeld ?_
      · (intro u hu; (try dsimp only at hu); go_split_ands; go_simp)
      (try simp only [Act.put, List.setIfInBounds_toArray, List.set_cons_zero, List.set_cons_succ])
      refine L4.late_step 6 (by kernel_rfl) rfl (fun K hK => ?_)
      go_simp
      refine Calls.mono (HSO.out V1 _ HRx3.out.1 HFx.out.2.2.1 _ (bstepB HZ1.out B)) ?_
      rintro e q4 ⟨so1, sn1, sc1, rfl, hO1, c4⟩
      replace hO1 := hO1.mono (B' := 0) (Nat.zero_le _)
      have B := B.trans (c4.mono B.size)
      clear c4 hHeld
      have hHeld := KEEP _ B
      go_wp2_with fail
      refine hK.out _ _ (L4.AllL.kept hHeld) ?_
      clear hK K
      (try simp only [Act.put, List.setIfInBounds_toArray, List.set_cons_zero, List.set_cons_succ])
      refine L4.late_step 7 (by kernel_rfl) rfl (fun K hK => ?_)
      go_simp
      refine Calls.mono (HCE1.out _ _ _ _ (bstepB HX1.out B) hO1) ?_
      rintro e q5 ⟨rfl, c5⟩
      have B := B.trans (c5.mono B.size)
      replace hO1 := hO1.below c5
      clear c5 hHeld
      have hHeld := KEEP _ B
      go_wp2_with fail
      refine hK.out _ _ (L4.AllL.kept hHeld) ?_
      clear hK K
      (try simp only [Act.put, List.setIfInBounds_toArray, List.set_cons_zero, List.set_cons_succ])
      refine L4.late_free 8 (v := .tuple #[.int .i64 a1, .int .i64 0]) rfl (by kernel_rfl) (by kernel_rfl) (by kernel_rfl) (by kernel_rfl) (by kernel_rfl) (by kernel_rfl) (fun _ _ _ h => h) (Or.inl ⟨by rfl, ?_⟩) hHeld ?_
      · (intro u _; go_simp)
      (try simp only [Act.put, List.setIfInBounds_toArray, List.set_cons_zero, List.set_cons_succ])
      refine L4.late_free 9 (v := .int .i64 a1) rfl (by kernel_rfl) (by kernel_rfl) (by kernel_rfl) (by kernel_rfl) (by kernel_rfl) (by kernel_rfl) (fun _ _ _ h => h) (Or.inl ⟨by rfl, ?_⟩) hHeld ?_
      · (intro u _; go_simp)
      (try simp only [Act.put, List.setIfInBounds_toArray, List.set_cons_zero, List.set_cons_succ])
      refine L4.late_free 10 (v := .int .i64 0) rfl (by kernel_rfl) (by kernel_rfl) (by kernel_rfl) (by kernel_rfl) (by kernel_rfl) (by kernel_rfl) (fun _ _ _ h => h) (Or.inl ⟨by rfl, ?_⟩) hHeld ?_
      · (intro u _; go_simp)
      (try simp only [Act.put, List.setIfInBounds_toArray, List.set_cons_zero, List.set_cons_succ])
      refine L4.late_step 11 (by kernel_rfl) rfl (fun K hK => ?_)
      go_simp
      refine hK.out _ _ (L4.AllL.kept hHeld) ?_
      clear hK K
      (try simp only [Act.put, List.setIfInBounds_toArray, List.set_cons_zero, List.set_cons_succ])
      refine L4.late_step 12 (by kernel_rfl) rfl (fun K hK => ?_)
      go_simp
      refine hK.out _ _ (L4.AllL.kept hHeld) ?_
      clear hK K
      (try simp only [Act.put, List.setIfInBounds_toArray, List.set_cons_zero, List.set_cons_succ])
      refine L4.late_done (by kernel_rfl) ?_ _
      clear hHeld KEEP
      have HZ2 : Hid (Below wr.heap.size wr q5) := bstepB HZ1.out B
      have HX2 : Hid (Below X3.heap.size X3 q5) := bstepB HX1.out B
      clear B hO1 cp0 cp1 cp2 cx0 cx1 cx2
      obtain ⟨cp0, cp1, cp2⟩ := (HQp.out.below HX2.out).cells
      obtain ⟨cy0, cy1, cy2⟩ := (HQy3.out.below HX2.out).cells
      go_upto_region 17 with fail
      have KEEP : ∀ u, Below q5.heap.size q5 u → L4.AllL u [(0, fun w' => w'.cell? ⟨gy, 0, none⟩ = some (.slice y1o y1n y1c) ∧ w'.cell? ⟨gy, 1, none⟩ = some (.slice y2o y2n y2c) ∧ w'.cell? ⟨gy, 2, none⟩ = some (.slice y3o y3n y3c)), (2, fun w' => w'.cell? ⟨gp, 0, none⟩ = some (.slice uo k uc)), (5, fun w' => w'.cell? ⟨gy, 0, none⟩ = some (.slice y1o y1n y1c))] := fun u hu => ⟨⟨keepR hu cy0, keepR hu cy1, keepR hu cy2⟩, keepR hu cp0, keepR hu cy0, trivial⟩
      refine L4.region_late [(0, fun w' => w'.cell? ⟨gy, 0, none⟩ = some (.slice y1o y1n y1c) ∧ w'.cell? ⟨gy, 1, none⟩ = some (.slice y2o y2n y2c) ∧ w'.cell? ⟨gy, 2, none⟩ = some (.slice y3o y3n y3c)), (2, fun w' => w'.cell? ⟨gp, 0, none⟩ = some (.slice uo k uc)), (5, fun w' => w'.cell? ⟨gy, 0, none⟩ = some (.slice y1o y1n y1c))] (by kernel_rfl) ?_
      have B : Below q5.heap.size q5 q5.drew := (Below.refl _ _).drew
      obtain ⟨w6, hw6⟩ : ∃ u, u = q5.drew := ⟨_, rfl⟩
      rw [← hw6] at B ⊢
      clear hw6
      have hHeld := KEEP _ B
      refine L4.late_take 0 (v := .agg #[.slice y1o y1n y1c, .slice y2o y2n y2c, .slice y3o y3n y3c]) rfl (by kernel_rfl) (List.Mem.head _) (by kernel_rfl) (by kernel_rfl) (by kernel_rfl) (by kernel_rfl) (fun _ _ _ h => h) (Or.inl ⟨by rfl, ?_⟩) hHeld ?_
      · (intro u hu; (try dsimp only at hu); go_split_ands; go_simp)
      (try simp only [Act.put, List.setIfInBounds_toArray, List.set_cons_zero, List.set_cons_succ])
      refine L4.late_free 1 (v := .pointer (some ⟨gp, 0, none⟩)) rfl (by kernel_rfl) (by kernel_rfl) (by kernel_rfl) (by kernel_rfl) (by kernel_rfl) (by kernel_rfl) (fun _ _ _ h => h) (Or.inl ⟨by rfl, ?_⟩) hHeld ?_
      · (intro u _; go_simp)
      (try simp only [Act.put, List.setIfInBounds_toArray, List.set_cons_zero, List.set_cons_succ])
      refine L4.late_take 2 (v := .slice uo k uc) rfl (by kernel_rfl) (List.Mem.tail _ (List.Mem.head _)) (by kernel_rfl) (by kernel_rfl) (by kernel_rfl) (by kernel_rfl) (fun _ _ _ h => h) (Or.inl ⟨by rfl, ?_⟩) hHeld ?_
      · (intro u hu; (try dsimp only at hu); go_split_ands; go_simp)
      (try simp only [Act.put, List.setIfInBounds_toArray, List.set_cons_zero, List.set_cons_succ])
      refine L4.late_free 3 (v := .slice (some ⟨gv, 0, none⟩) k k) rfl (by kernel_rfl) (by kernel_rfl) (by kernel_rfl) (by kernel_rfl) (by kernel_rfl) (by kernel_rfl) (fun _ _ _ h => h) (Or.inl ⟨by rfl, ?_⟩) hHeld ?_
      · (intro u _; go_simp)
      (try simp only [Act.put, List.setIfInBounds_toArray, List.set_cons_zero, List.set_cons_succ])
      refine L4.late_free 4 (v := .pointer (some ⟨gy, 0, none⟩)) rfl (by kernel_rfl) (by kernel_rfl) (by kernel_rfl) (by kernel_rfl) (by kernel_rfl) (by kernel_rfl) (fun _ _ _ h => h) (Or.inl ⟨by rfl, ?_⟩) hHeld ?_
      · (intro u _; go_simp)
      (try simp only [Act.put, List.setIfInBounds_toArray, List.set_cons_zero, List.set_cons_succ])
      refine L4.late_take 5 (v := .slice y1o y1n y1c) rfl (by kernel_rfl) (List.Mem.tail _ (List.Mem.tail _ (List.Mem.head _))) (by kernel_rfl) (by kernel_rfl) (by kernel_rfl) (by kernel_rfl) (fun _ _ _ h => h) (Or.inl ⟨by rfl, ?_⟩) hHeld ?_
      · (intro u hu; (try dsimp only at hu); go_split_ands; go_simp)
      (try simp only [Act.put, List.setIfInBounds_toArray, List.set_cons_zero, List.set_cons_succ])
      refine L4.late_step 6 (by kernel_rfl) rfl (fun K hK => ?_)
      go_simp
      refine Calls.mono (HSO.out V2 _ HRy3.out.1 HFy.out.2.2.1 _ (bstepB HZ2.out B)) ?_
      rintro e q7 ⟨so2, sn2, sc2, rfl, hO2, c7⟩
      replace hO2 := hO2.mono (B' := 0) (Nat.zero_le _)
      have B := B.trans (c7.mono B.size)
      clear c7 hHeld
      have hHeld := KEEP _ B
      go_wp2_with fail
      refine hK.out _ _ (L4.AllL.kept hHeld) ?_
      clear hK K
      (try simp only [Act.put, List.setIfInBounds_toArray, List.set_cons_zero, List.set_cons_succ])
      refine L4.late_step 7 (by kernel_rfl) rfl (fun K hK => ?_)
      go_simp
      refine Calls.mono (HCE2.out _ _ _ _ (bstepB HX2.out B) hO2) ?_
      rintro e q8 ⟨rfl, c8⟩
      have B := B.trans (c8.mono B.size)
      replace hO2 := hO2.below c8
      clear c8 hHeld
      have hHeld := KEEP _ B
      go_wp2_with fail
      refine hK.out _ _ (L4.AllL.kept hHeld) ?_
      clear hK K
      (try simp only [Act.put, List.setIfInBounds_toArray, List.set_cons_zero, List.set_cons_succ])
      refine L4.late_free 8 (v := .tuple #[.int .i64 a2, .int .i64 0]) rfl (by kernel_rfl) (by kernel_rfl) (by kernel_rfl) (by kernel_rfl) (by kernel_rfl) (by kernel_rfl) (fun _ _ _ h => h) (Or.inl ⟨by rfl, ?_⟩) hHeld ?_
      · (intro u _; go_simp)
      (try simp only [Act.put, List.setIfInBounds_toArray, List.set_cons_zero, List.set_cons_succ])
      refine L4.late_free 9 (v := .int .i64 a2) rfl (by kernel_rfl) (by kernel_rfl) (by kernel_rfl) (by kernel_rfl) (by kernel_rfl) (by kernel_rfl) (fun _ _ _ h => h) (Or.inl ⟨by rfl, ?_⟩) hHeld ?_
      · (intro u _; go_simp)
      (try simp only [Act.put, List.setIfInBounds_toArray, List.set_cons_zero, List.set_cons_succ])
      refine L4.late_free 10 (v := .int .i64 0) rfl (by kernel_rfl) (by kernel_rfl) (by kernel_rfl) (by kernel_rfl) (by kernel_rfl) (by kernel_rfl) (fun _ _ _ h => h) (Or.inl ⟨by rfl, ?_⟩) hHeld ?_
      · (intro u _; go_simp)
      (try simp only [Act.put, List.setIfInBounds_toArray, List.set_cons_zero, List.set_cons_succ])
      refine L4.late_step 11 (by kernel_rfl) rfl (fun K hK => ?_)
      go_simp
      refine hK.out _ _ (L4.AllL.kept hHeld) ?_
      clear hK K
      (try simp only [Act.put, List.setIfInBounds_toArray, List.set_cons_zero, List.set_cons_succ])
      refine L4.late_step 12 (by kernel_rfl) rfl (fun K hK => ?_)
      go_simp
      refine hK.out _ _ (L4.AllL.kept hHeld) ?_
      clear hK K
      (try simp only [Act.put, List.setIfInBounds_toArray, List.set_cons_zero, List.set_cons_succ])
      refine L4.late_done (by kernel_rfl) ?_ _
      clear hHeld KEEP
      have HX4 : Hid (Below X3.heap.size X3 q8) := bstepB HX2.out B
      clear B hO2 cp0 cp1 cp2 cy0 cy1 cy2
      obtain ⟨cp0, cp1, cp2⟩ := (HQp.out.below HX4.out).cells
      have cj := keepR HX4.out HPJ.out
      have hjz : (j : Int) < (N : Int) := by omega
      have hmu : IntKind.i64.wrap (a1 * a2) = pc := HPC.out
      have hpe : (pc == pc) = true := by simp
      go_wp2
      go_ret
      exact ⟨by simp, bstepB HBp.out HX4.out⟩
end Go.Proofs.Ytjlmignafhhjhaa
