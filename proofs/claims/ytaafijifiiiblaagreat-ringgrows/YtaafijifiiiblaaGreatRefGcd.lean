/-
  Proved here: what the plain way's Gcd answers.
-/
import Derived.Test.YtaafijifiiiblaaGreatRefDivMod
import Derived.Test.YtaafijifiiiblaaGreatValAtAll
namespace Go.Proofs.YtaafijifiiiblaaGreat
open Go.RowKit

theorem lim_le_k {a b k : Nat} (h : a ≤ b) (hb : (lim b).length ≤ k) : (lim a).length ≤ k := lim_len_le (Nat.lt_of_le_of_lt h (lim_lt_of_len hb))
theorem lim_half {n k : Nat} (h : (lim n).length ≤ k) : (lim (n / 2)).length ≤ k := lim_len_le (Nat.lt_of_le_of_lt (Nat.div_le_self _ _) (lim_lt_of_len h))
theorem lim_diff {n m k : Nat} (h : (lim n).length ≤ k) : (lim (n - m)).length ≤ k := lim_len_le (Nat.lt_of_le_of_lt (Nat.sub_le _ _) (lim_lt_of_len h))
theorem twos_bound {t G x k : Nat} (h : 2 ^ t * x = G) (hx : 0 < G) (hk : (lim G).length ≤ k) : t < 32 * k := by
  have h1 : G < 4294967296 ^ k := lim_lt_of_len hk
  have h2 : (4294967296 : Nat) ^ k = 2 ^ (32 * k) := by rw [Nat.pow_mul]
  have h3 : 2 ^ t ≤ G := by
    rcases Nat.eq_zero_or_pos x with h0 | h0
    · rw [h0, Nat.mul_zero] at h; omega
    · rw [← h]; exact Nat.le_mul_of_pos_right _ h0
  rw [h2] at h1
  exact (Nat.pow_lt_pow_iff_right (by decide : 1 < 2)).1 (Nat.lt_of_le_of_lt h3 h1)
theorem lim_ne_len {n : Nat} (h : n ≠ 0) : 0 < (lim n).length := by
  rcases Nat.eq_zero_or_pos (lim n).length with h0 | h0
  · exact absurd (lim_len_zero h0) h
  · exact h0
theorem gcd_len {X Y G k : Nat} (hX : 0 < X) (h : Nat.gcd X Y = G) (hk : (lim X).length ≤ k) : (lim G).length ≤ k := by
  rw [← h]
  exact lim_len_le (Nat.lt_of_le_of_lt (Nat.gcd_le_left Y hX) (lim_lt_of_len hk))

/-- Two numbers of the call's own. -/
structure Two (B : Nat) (w0 w : World) (x y : Value) (X Y : Nat) : Prop where
  ox : Own B 100 w x (lim X)
  oy : Own B 100 w y (lim Y)
  lx : (lim X).length ≤ 4000
  ly : (lim Y).length ≤ 4000
  bel : Below w0.heap.size w0 w

set_option maxRecDepth 100000 in
set_option maxHeartbeats 12800000 in
theorem gcd_ref (u v : Value) (xs ys : List Nat) (w : World) (hu : Num w u xs) (hv : Num w v ys) (lx : xs.length ≤ 4000) (ly : ys.length ≤ 4000) :
    Calls Tryz.prog 102 #[u, v] w fun e w' => Made' w.heap.size w (lim (Nat.gcd (val xs) (val ys))) e w' := by
  obtain ⟨A, hA⟩ : ∃ A, A = val xs := ⟨_, rfl⟩
  obtain ⟨Bn, hB⟩ : ∃ B, B = val ys := ⟨_, rfl⟩
  have hlA : (lim A).length ≤ 4000 := by rw [hA]; exact Nat.le_trans (lim_len_le (val_lt hu.1)) lx
  have hlB : (lim Bn).length ≤ 4000 := by rw [hB]; exact Nat.le_trans (lim_len_le (val_lt hv.1)) ly
  obtain ⟨G, hG⟩ : ∃ G, G = Nat.gcd A Bn := ⟨_, rfl⟩
  rw [← hA, ← hB, ← hG]
  have HG : Hid (Nat.gcd A Bn = G) := hG.symm
  have HA : Hid (val xs = A) := hA.symm
  have HB : Hid (val ys = Bn) := hB.symm
  clear hG hA hB
  go_enter Tryz.func102, Tryz.ntmps102
  go_wp2_with fail
  refine (norm_ref _ _ _ hu (by omega)).mono ?_
  rw [HA.out]
  rintro e w2 ⟨a1, rfl, ha1, b2⟩
  replace hv := hv.below (Nat.le_refl _) b2
  obtain ⟨ao, ac, rfl, hac, ham⟩ := ha1.num.ao
  go_wp2_with fail
  refine (norm_ref _ _ _ hv (by omega)).mono ?_
  rw [HB.out]
  rintro e w3 ⟨b1, rfl, hb1, b3⟩
  obtain ⟨bo, bc, rfl, hbc, hbm⟩ := hb1.num.ao
  replace ha1 := ha1.below b3
  replace hb1 := hb1.mono (B' := w.heap.size) b2.size
  have hbw := bstep b2 b3
  clear hu hv b2 b3 HA HB lx ly
  obtain ⟨al, hal⟩ : ∃ l, l = (lim A).length := ⟨_, rfl⟩
  obtain ⟨bl_, hbl⟩ : ∃ l, l = (lim Bn).length := ⟨_, rfl⟩
  have HAL : Hid (al = (lim A).length) := hal
  have HBL : Hid (bl_ = (lim Bn).length) := hbl
  rw [← hal] at ha1 hac hlA ⊢
  rw [← hbl] at hb1 hbc hlB ⊢
  clear hal hbl
  by_cases ha0 : al = 0
  · have hA0 : A = 0 := lim_len_zero (by rw [← HAL.out]; exact ha0)
    have HE : Hid (Made' w.heap.size w (lim G) (.returned (.slice bo bl_ bc)) w3) := ⟨_, rfl, by rw [← HG.out, hA0, Nat.gcd_zero_left]; exact hb1, hbw⟩
    subst ha0
    clear hA0 ha1 hb1 hbw
    go_wp2_with fail
    go_ret
    exact HE.out
  · have ha0' : ((al : Int) == 0) = false := by simp; omega
    have hAp : A ≠ 0 := by intro h; apply ha0; rw [HAL.out, h]; rfl
    by_cases hb0 : bl_ = 0
    · have hB0 : Bn = 0 := lim_len_zero (by rw [← HBL.out]; exact hb0)
      have HE : Hid (Made' w.heap.size w (lim G) (.returned (.slice ao al ac)) w3) := ⟨_, rfl, by rw [← HG.out, hB0, Nat.gcd_zero_right]; exact ha1, hbw⟩
      subst hb0
      clear hB0 ha1 hb1 hbw hAp
      go_wp2_with fail
      go_ret
      exact HE.out
    · have hb0' : ((bl_ : Int) == 0) = false := by simp; omega
      have hBp : Bn ≠ 0 := by intro h; apply hb0; rw [HBL.out, h]; rfl
      have HGP : Hid (0 < G ∧ (lim G).length ≤ 4000) := by
        refine ⟨by rw [← HG.out]; exact Nat.gcd_pos_of_pos_left _ (by omega), gcd_len (X := A) (Y := Bn) (by omega) HG.out (by rw [← HAL.out]; exact hlA)⟩
      have HT : Hid (Two w.heap.size w w3 (.slice ao al ac) (.slice bo bl_ bc) A Bn ∧ A ≠ 0 ∧ Bn ≠ 0) := ⟨⟨ha1, hb1, by rw [← HAL.out]; exact hlA, by rw [← HBL.out]; exact hlB, hbw⟩, hAp, hBp⟩
      clear ha1 hb1 hbw ha0 hb0 hAp hBp hlA hlB HAL HBL hac ham hbc hbm
      go_wp2_with fail
      go_loopw [5, 6, 7] (fun xv yv tv wr => ∃ (X Y t : Nat), Two w.heap.size w wr xv yv X Y ∧ X ≠ 0 ∧ Y ≠ 0 ∧ tv = .int .i64 t ∧ 2 ^ t * Nat.gcd X Y = G) (fun xv _ _ wr => valAt wr xv)
      case atStart => exact ⟨A, Bn, 0, HT.out.1, HT.out.2.1, HT.out.2.2, rfl, by rw [Nat.pow_zero, Nat.one_mul]; exact HG.out⟩
      case round =>
        clear HT HG
        obtain ⟨X, Y, t, hT, hX, hY, rfl, hg⟩ := hrel
        have ht32 : t < 128000 := twos_bound hg HGP.out.1 HGP.out.2
        obtain ⟨xo, xc, rfl, hxc, hxm⟩ := hT.ox.num.ao
        obtain ⟨yo, yc, rfl, hyc, hym⟩ := hT.oy.num.ao
        obtain ⟨xl, hxl⟩ : ∃ l, l = (lim X).length := ⟨_, rfl⟩
        obtain ⟨yl, hyl⟩ : ∃ l, l = (lim Y).length := ⟨_, rfl⟩
        have hlx := hT.lx
        have hly := hT.ly
        rw [← hxl] at hT hxc hlx ⊢
        rw [← hyl] at hT hyc hly ⊢
        clear hxl hyl
        have HM0 : Hid (valAt wr (.slice xo xl xc) = X) := by show _ = _; rw [valAt_eq hT.ox.num, val_lim]
        have hevx := even_ref _ _ wr hT.ox.num
        rw [val_lim] at hevx
        have hevy := even_ref _ _ wr hT.oy.num
        rw [val_lim] at hevy
        clear hxc hxm hyc hym
        by_cases hx2 : X % 2 = 0
        · rw [decide_eq_true hx2] at hevx
          have HX2 : Hid (X % 2 = 0) := hx2
          by_cases hy2 : Y % 2 = 0
          · rw [decide_eq_true hy2] at hevy
            have HY2 : Hid (Y % 2 = 0) := hy2
            clear hx2 hy2
            go_wp2_with fail
            refine hevx.mono ?_
            rintro e w6 ⟨rfl, rfl⟩
            go_wp2_with fail
            refine hevy.mono ?_
            rintro e w6 ⟨rfl, rfl⟩
            clear hevx hevy
            go_wp2_with fail
            refine (half_ref _ _ _ hT.ox.num (Nat.le_trans hT.lx (by decide))).mono ?_
            rw [val_lim]
            rintro e w7 ⟨x2, rfl, ho2, b7⟩
            obtain ⟨xo2, xl2, xc2, rfl⟩ := ho2.sl
            go_wp2_with fail
            refine (half_ref _ _ _ (hT.oy.below b7).num (Nat.le_trans hT.ly (by decide))).mono ?_
            rw [val_lim]
            rintro e w8 ⟨y2, rfl, ho3, b8⟩
            have HN : Hid (Two w.heap.size w w8 (.slice xo2 xl2 xc2) y2 (X / 2) (Y / 2) ∧ X / 2 ≠ 0 ∧ Y / 2 ≠ 0 ∧ 2 ^ (t + 1) * Nat.gcd (X / 2) (Y / 2) = G) := by
              refine ⟨⟨(ho2.mono hT.bel.size).below b8, ho3.mono (Nat.le_trans hT.bel.size b7.size), lim_half hT.lx, lim_half hT.ly, bstep (bstep hT.bel b7) b8⟩, by have := HX2.out; omega, by have := HY2.out; omega, ?_⟩
              rw [Nat.pow_succ, Nat.mul_assoc, ← gcd_halves HX2.out HY2.out]; exact hg
            have HLT : Hid (valAt w8 (.slice xo2 xl2 xc2) < X) := by show _ < _; rw [valAt_eq HN.out.1.ox.num, val_lim]; omega
            obtain ⟨yo2, yl2, yc2, rfl⟩ := ho3.sl
            clear ho2 ho3 b7 b8 hT hX hY hg
            go_wp2_with fail
            go_roundw
            case rel => exact ⟨_, _, t + 1, HN.out.1, HN.out.2.1, HN.out.2.2.1, by go_num, HN.out.2.2.2⟩
            case measure => rw [HM0.out]; exact HLT.out
          · rw [decide_eq_false hy2] at hevy
            have hodd := gcd_odd (x := X) (y := Y) (fun h => hy2 h.2)
            obtain ⟨G', hg1⟩ : ∃ g, Nat.gcd X Y = g := ⟨_, rfl⟩
            rw [hg1] at hg hodd
            have HG2 : Hid (2 ^ t * G' = G) := hg
            have HO : Hid (G' % 2 = 1) := hodd
            have HG1 : Hid (Nat.gcd X Y = G') := hg1
            clear hx2 hy2 hg HM0 hg1 hodd HX2
            go_wp2_with fail
            refine hevx.mono ?_
            rintro e w6 ⟨rfl, rfl⟩
            go_wp2_with fail
            refine hevy.mono ?_
            rintro e wr ⟨rfl, rfl⟩
            clear hevx hevy
            have HS : Hid (Two w.heap.size w wr (.slice xo xl xc) (.slice yo yl yc) X Y ∧ X ≠ 0 ∧ Nat.gcd X Y = G') := ⟨hT, hX, HG1.out⟩
            clear hT hX hY HG1 hlx hly
            go_wp2_with fail
            go_loopw [5, 6] (fun xv yv wr => ∃ (X Y : Nat), Two w.heap.size w wr xv yv X Y ∧ X ≠ 0 ∧ Nat.gcd X Y = G') (fun xv yv wr => valAt wr xv + valAt wr yv)
            case atStart => exact ⟨X, Y, HS.out⟩
            case round =>
              clear HS
              obtain ⟨X, Y, hT, hX, hg1⟩ := hrel
              obtain ⟨xo, xc, rfl, hxc, hxm⟩ := hT.ox.num.ao
              obtain ⟨yo, yc, rfl, hyc, hym⟩ := hT.oy.num.ao
              obtain ⟨xl, hxl⟩ : ∃ l, l = (lim X).length := ⟨_, rfl⟩
              obtain ⟨yl, hyl⟩ : ∃ l, l = (lim Y).length := ⟨_, rfl⟩
              have HXL : Hid (xl = (lim X).length) := hxl
              have HYL : Hid (yl = (lim Y).length) := hyl
              rw [← hxl] at hT hxc ⊢
              rw [← hyl] at hT hyc ⊢
              have hlx := hT.lx
              have hly := hT.ly
              rw [← hxl] at hlx
              rw [← hyl] at hly
              have HM : Hid (valAt wr (.slice xo xl xc) + valAt wr (.slice yo yl yc) = X + Y) := by show _ = _; rw [valAt_eq hT.ox.num, valAt_eq hT.oy.num, val_lim, val_lim]
              have Hg : Hid (Nat.gcd X Y = G') := hg1
              clear hxl hyl hg1
              by_cases hY0 : yl = 0
              · have hYz : Y = 0 := lim_len_zero (by rw [← HYL.out]; exact hY0)
                have HS : Hid (Own w.heap.size 100 wr (.slice xo xl xc) (lim (2 ^ 0 * G')) ∧ Below w.heap.size w wr) := by
                  refine ⟨?_, hT.bel⟩
                  rw [Nat.pow_zero, Nat.one_mul, ← Hg.out, hYz, Nat.gcd_zero_right]
                  exact hT.ox
                have hyz : ¬ (0 : Int) < (yl : Int) := by omega
                clear hT hX hYz HM Hg hY0 hxc hxm hyc hym
                go_wp2_with fail
                go_loopw [5, 8] (fun xv iv wr => ∃ i : Nat, i ≤ t ∧ iv = .int .i64 i ∧ Own w.heap.size 100 wr xv (lim (2 ^ i * G')) ∧ Below w.heap.size w wr) (fun _ iv _ => t - (intOf iv).toNat)
                case atStart => exact ⟨0, Nat.zero_le _, rfl, HS.out⟩
                case round =>
                  clear HS
                  obtain ⟨i, hit, rfl, hox, hbw⟩ := hrel
                  obtain ⟨zo, zc, rfl, hzc, hzm⟩ := hox.num.ao
                  by_cases hlt : i < t
                  · have hlt' : (i : Int) < (t : Int) := by omega
                    have hll : (lim (2 ^ i * G')).length ≤ 4000 := by
                      refine lim_le_k ?_ HGP.out.2
                      rw [← HG2.out]
                      exact Nat.mul_le_mul_right _ (Nat.pow_le_pow_right (by decide) (by omega))
                    obtain ⟨zl, hzl⟩ : ∃ l, l = (lim (2 ^ i * G')).length := ⟨_, rfl⟩
                    rw [← hzl] at hox hzc ⊢
                    clear hzl
                    go_wp2_with fail
                    refine (double_ref _ _ 0 _ hox.num (by omega) (by decide)).mono ?_
                    rintro e w9 ⟨d, ds, rfl, hod, hdv, hdl, hnorm, b9⟩
                    rw [val_lim] at hnorm
                    have HN : Hid (Own w.heap.size 100 w9 d (lim (2 ^ (i + 1) * G')) ∧ Below w.heap.size w w9) := by
                      have e1 := hnorm rfl
                      rw [e1] at hod
                      refine ⟨?_, bstep hbw b9⟩
                      rw [Nat.pow_succ, Nat.mul_comm (2 ^ i) 2, Nat.mul_assoc]
                      exact hod.mono hbw.size
                    obtain ⟨do_, dl, dc, rfl⟩ := hod.sl
                    clear hod hdv hdl hnorm b9 hox hbw
                    go_wp2
                    go_roundw
                    case rel => exact ⟨i + 1, by omega, by go_num, HN.out⟩
                    case measure => simp [intOf]; omega
                  · have hlt' : ¬ (i : Int) < (t : Int) := by omega
                    have hit2 : i = t := by omega
                    have HE : Hid (Made' w.heap.size w (lim G) (.returned (.slice zo (lim (2 ^ i * G')).length zc)) wr) := ⟨_, rfl, by rw [← HG2.out, ← hit2]; exact hox, hbw⟩
                    generalize (lim (2 ^ i * G')).length = zl at *
                    clear hox hbw hit2
                    go_wp2_with fail
                    go_ret
                    exact HE.out
              · have hyz : 0 < yl := by omega
                have hYp : Y ≠ 0 := by intro h; apply hY0; rw [HYL.out, h]; rfl
                have HS : Hid (Two w.heap.size w wr (.slice xo xl xc) (.slice yo yl yc) X Y ∧ X ≠ 0 ∧ X ≤ X ∧ Nat.gcd X Y = G' ∧ Y ≠ 0) := ⟨hT, hX, Nat.le_refl _, Hg.out, hYp⟩
                clear hT hX Hg hY0 hYp hxc hxm hlx HXL
                go_wp2_with fail
                go_loopw [5] (fun xv wr => ∃ (X1 : Nat), Two w.heap.size w wr xv (.slice yo yl yc) X1 Y ∧ X1 ≠ 0 ∧ X1 ≤ X ∧ Nat.gcd X1 Y = G' ∧ Y ≠ 0) (fun xv wr => valAt wr xv)
                case atStart => exact ⟨X, HS.out⟩
                case round =>
                  clear HS
                  obtain ⟨X1, hT, hX, hXl, hg1, hYp⟩ := hrel
                  obtain ⟨xo1, xl1, xc1, rfl⟩ := hT.ox.sl
                  have HM1 : Hid (valAt wr (.slice xo1 xl1 xc1) = X1) := by show _ = _; rw [valAt_eq hT.ox.num, val_lim]
                  have hev := even_ref _ _ wr hT.ox.num
                  rw [val_lim] at hev
                  by_cases hx2 : X1 % 2 = 0
                  · rw [decide_eq_true hx2] at hev
                    have HX2 : Hid (X1 % 2 = 0) := hx2
                    clear hx2
                    go_wp2_with fail
                    refine hev.mono ?_
                    rintro e w6 ⟨rfl, rfl⟩
                    clear hev
                    go_wp2_with fail
                    refine (half_ref _ _ _ hT.ox.num (Nat.le_trans hT.lx (by decide))).mono ?_
                    rw [val_lim]
                    rintro e w7 ⟨x2, rfl, ho2, b7⟩
                    have HN : Hid (Two w.heap.size w w7 x2 (.slice yo yl yc) (X1 / 2) Y ∧ X1 / 2 ≠ 0 ∧ X1 / 2 ≤ X ∧ Nat.gcd (X1 / 2) Y = G' ∧ Y ≠ 0) :=
                      ⟨⟨ho2.mono hT.bel.size, hT.oy.below b7, lim_half hT.lx, hT.ly, bstep hT.bel b7⟩, by have := HX2.out; omega, by omega, gcd_half_left hg1 HO.out HX2.out, hYp⟩
                    have HLT : Hid (valAt w7 x2 < X1) := by show _ < _; rw [valAt_eq ho2.num, val_lim]; omega
                    obtain ⟨xo2, xl2, xc2, rfl⟩ := ho2.sl
                    clear ho2 b7 hT hX hXl hg1 hYp
                    go_wp2_with fail
                    go_roundw
                    case rel => exact ⟨_, HN.out⟩
                    case measure => rw [HM1.out]; exact HLT.out
                  · rw [decide_eq_false hx2] at hev
                    have HX1 : Hid (X1 ≠ 0 ∧ X1 ≤ X ∧ X1 % 2 = 1) := ⟨hX, hXl, by omega⟩
                    have HS : Hid (Two w.heap.size w wr (.slice xo1 xl1 xc1) (.slice yo yl yc) X1 Y ∧ Y ≠ 0 ∧ Y ≤ Y ∧ Nat.gcd X1 Y = G') := ⟨hT, hYp, Nat.le_refl _, hg1⟩
                    clear hX hXl hx2 hT hg1 hYp HM1 hyc hym hly HYL
                    go_wp2_with fail
                    refine hev.mono ?_
                    rintro e w6 ⟨rfl, rfl⟩
                    clear hev
                    go_wp2_with fail
                    go_loopw [6] (fun yv wr => ∃ (Y1 : Nat), Two w.heap.size w wr (.slice xo1 xl1 xc1) yv X1 Y1 ∧ Y1 ≠ 0 ∧ Y1 ≤ Y ∧ Nat.gcd X1 Y1 = G') (fun yv wr => valAt wr yv)
                    case atStart => exact ⟨Y, HS.out⟩
                    case round =>
                      clear HS
                      obtain ⟨Y1, hT, hYp, hYl, hg1⟩ := hrel
                      obtain ⟨yo1, yc1, rfl, hyc, hym⟩ := hT.oy.num.ao
                      obtain ⟨yl1, hyl1⟩ : ∃ l, l = (lim Y1).length := ⟨_, rfl⟩
                      have hl0 := lim_ne_len hYp
                      have hly := hT.ly
                      rw [← hyl1] at hT hyc hl0 hly ⊢
                      clear hyl1
                      have HM1 : Hid (valAt wr (.slice yo1 yl1 yc1) = Y1) := by show _ = _; rw [valAt_eq hT.oy.num, val_lim]
                      have hev := even_ref _ _ wr hT.oy.num
                      rw [val_lim] at hev
                      by_cases hy2 : Y1 % 2 = 0
                      · rw [decide_eq_true hy2] at hev
                        have HY2 : Hid (Y1 % 2 = 0) := hy2
                        clear hy2
                        go_wp2_with fail
                        refine hev.mono ?_
                        rintro e w6 ⟨rfl, rfl⟩
                        clear hev
                        go_wp2_with fail
                        refine (half_ref _ _ _ hT.oy.num (Nat.le_trans hT.ly (by decide))).mono ?_
                        rw [val_lim]
                        rintro e w7 ⟨x2, rfl, ho2, b7⟩
                        have HN : Hid (Two w.heap.size w w7 (.slice xo1 xl1 xc1) x2 X1 (Y1 / 2) ∧ Y1 / 2 ≠ 0 ∧ Y1 / 2 ≤ Y ∧ Nat.gcd X1 (Y1 / 2) = G') :=
                          ⟨⟨hT.ox.below b7, ho2.mono hT.bel.size, hT.lx, lim_half hT.ly, bstep hT.bel b7⟩, by have := HY2.out; omega, by omega, gcd_half_right hg1 HO.out HY2.out⟩
                        have HLT : Hid (valAt w7 x2 < Y1) := by show _ < _; rw [valAt_eq ho2.num, val_lim]; omega
                        obtain ⟨xo2, xl2, xc2, rfl⟩ := ho2.sl
                        clear ho2 b7 hT hYp hYl hg1 hyc hym hl0 hly
                        go_wp2_with fail
                        go_roundw
                        case rel => exact ⟨_, HN.out⟩
                        case measure => rw [HM1.out]; exact HLT.out
                      · rw [decide_eq_false hy2] at hev
                        have HY1 : Hid (Y1 ≠ 0 ∧ Y1 ≤ Y) := ⟨hYp, hYl⟩
                        clear hYp hYl hy2 HM1
                        go_wp2_with fail
                        refine hev.mono ?_
                        rintro e w6 ⟨rfl, rfl⟩
                        clear hev
                        have hcmp := cmp_ref _ _ _ _ w6 hT.ox.num hT.oy.num (Nat.le_trans hT.lx (by decide)) (Nat.le_trans hT.ly (by decide))
                        rw [val_lim, val_lim] at hcmp
                        by_cases hc : Y1 < X1
                        · rw [cmpN_gt hc] at hcmp
                          have hsub := sub_ref_yes _ _ _ _ w6 hT.ox.num hT.oy.num (Nat.le_trans hT.lx (by decide)) (Nat.le_trans hT.ly (by decide)) (by rw [val_lim, val_lim]; omega)
                          rw [val_lim, val_lim] at hsub
                          have HC : Hid (Y1 < X1) := hc
                          clear hc
                          go_wp2_with fail
                          refine hcmp.mono ?_
                          rintro e w7 ⟨rfl, rfl⟩
                          go_wp2_with fail
                          refine hsub.mono ?_
                          rintro e w8 ⟨d, rfl, hod, b8⟩
                          have HN : Hid (Two w.heap.size w w8 (.slice yo1 yl1 yc1) d Y1 (X1 - Y1) ∧ Y1 ≠ 0 ∧ Nat.gcd Y1 (X1 - Y1) = G') :=
                            ⟨⟨hT.oy.below b8, hod.mono hT.bel.size, hT.ly, lim_diff hT.lx, bstep hT.bel b8⟩, HY1.out.1, by rw [gcd_less (Nat.le_of_lt HC.out), Nat.gcd_comm]; exact hg1⟩
                          have HLT : Hid (valAt w8 (.slice yo1 yl1 yc1) + valAt w8 d < X + Y) := by
                            show _ < _
                            rw [valAt_eq HN.out.1.ox.num, valAt_eq HN.out.1.oy.num, val_lim, val_lim]
                            have := HC.out; have := HY1.out; have := HX1.out; omega
                          obtain ⟨xo2, xl2, xc2, rfl⟩ := hod.sl
                          clear hod b8 hT hg1 hcmp hsub hyc hym hl0 hly
                          go_wp2_with fail
                          go_roundw
                          case rel => exact ⟨_, _, HN.out⟩
                          case measure => rw [HM.out]; exact HLT.out
                        · have hcm : ¬ (0 : Int) < cmpN X1 Y1 := by
                            rcases cmpN_cases X1 Y1 with ⟨h, e⟩ | ⟨h, e⟩ | ⟨h, e⟩ <;> rw [e] <;> omega
                          have hsub := sub_ref_yes _ _ _ _ w6 hT.oy.num hT.ox.num (Nat.le_trans hT.ly (by decide)) (Nat.le_trans hT.lx (by decide)) (by rw [val_lim, val_lim]; omega)
                          rw [val_lim, val_lim] at hsub
                          have HC : Hid (X1 ≤ Y1) := by show _ ≤ _; omega
                          generalize cmpN X1 Y1 = cm at *
                          clear hc
                          go_wp2_with fail
                          refine hcmp.mono ?_
                          rintro e w7 ⟨rfl, rfl⟩
                          go_wp2_with fail
                          refine hsub.mono ?_
                          rintro e w8 ⟨d, rfl, hod, b8⟩
                          have HN : Hid (Two w.heap.size w w8 (.slice xo1 xl1 xc1) d X1 (Y1 - X1) ∧ X1 ≠ 0 ∧ Nat.gcd X1 (Y1 - X1) = G') :=
                            ⟨⟨hT.ox.below b8, hod.mono hT.bel.size, hT.lx, lim_diff hT.ly, bstep hT.bel b8⟩, HX1.out.1, by rw [gcd_less HC.out]; exact hg1⟩
                          have HLT : Hid (valAt w8 (.slice xo1 xl1 xc1) + valAt w8 d < X + Y) := by
                            show _ < _
                            rw [valAt_eq HN.out.1.ox.num, valAt_eq HN.out.1.oy.num, val_lim, val_lim]
                            have := HC.out; have := HY1.out; have := HX1.out; omega
                          obtain ⟨xo2, xl2, xc2, rfl⟩ := hod.sl
                          clear hod b8 hT hg1 hcmp hsub hyc hym hl0 hly
                          go_wp2_with fail
                          go_roundw
                          case rel => exact ⟨_, _, HN.out⟩
                          case measure => rw [HM.out]; exact HLT.out
        · rw [decide_eq_false hx2] at hevx
          have hodd := gcd_odd (x := X) (y := Y) (fun h => hx2 h.1)
          obtain ⟨G', hg1⟩ : ∃ g, Nat.gcd X Y = g := ⟨_, rfl⟩
          rw [hg1] at hg hodd
          have HG2 : Hid (2 ^ t * G' = G) := hg
          have HO : Hid (G' % 2 = 1) := hodd
          have HG1 : Hid (Nat.gcd X Y = G') := hg1
          clear hx2 hg hevy HM0 hg1 hodd
          go_wp2_with fail
          refine hevx.mono ?_
          rintro e wr ⟨rfl, rfl⟩
          clear hevx
          have HS : Hid (Two w.heap.size w wr (.slice xo xl xc) (.slice yo yl yc) X Y ∧ X ≠ 0 ∧ Nat.gcd X Y = G') := ⟨hT, hX, HG1.out⟩
          clear hT hX hY HG1 hlx hly
          go_wp2_with fail
          go_loopw [5, 6] (fun xv yv wr => ∃ (X Y : Nat), Two w.heap.size w wr xv yv X Y ∧ X ≠ 0 ∧ Nat.gcd X Y = G') (fun xv yv wr => valAt wr xv + valAt wr yv)
          case atStart => exact ⟨X, Y, HS.out⟩
          case round =>
            clear HS
            obtain ⟨X, Y, hT, hX, hg1⟩ := hrel
            obtain ⟨xo, xc, rfl, hxc, hxm⟩ := hT.ox.num.ao
            obtain ⟨yo, yc, rfl, hyc, hym⟩ := hT.oy.num.ao
            obtain ⟨xl, hxl⟩ : ∃ l, l = (lim X).length := ⟨_, rfl⟩
            obtain ⟨yl, hyl⟩ : ∃ l, l = (lim Y).length := ⟨_, rfl⟩
            have HXL : Hid (xl = (lim X).length) := hxl
            have HYL : Hid (yl = (lim Y).length) := hyl
            rw [← hxl] at hT hxc ⊢
            rw [← hyl] at hT hyc ⊢
            have hlx := hT.lx
            have hly := hT.ly
            rw [← hxl] at hlx
            rw [← hyl] at hly
            have HM : Hid (valAt wr (.slice xo xl xc) + valAt wr (.slice yo yl yc) = X + Y) := by show _ = _; rw [valAt_eq hT.ox.num, valAt_eq hT.oy.num, val_lim, val_lim]
            have Hg : Hid (Nat.gcd X Y = G') := hg1
            clear hxl hyl hg1
            by_cases hY0 : yl = 0
            · have hYz : Y = 0 := lim_len_zero (by rw [← HYL.out]; exact hY0)
              have HS : Hid (Own w.heap.size 100 wr (.slice xo xl xc) (lim (2 ^ 0 * G')) ∧ Below w.heap.size w wr) := by
                refine ⟨?_, hT.bel⟩
                rw [Nat.pow_zero, Nat.one_mul, ← Hg.out, hYz, Nat.gcd_zero_right]
                exact hT.ox
              have hyz : ¬ (0 : Int) < (yl : Int) := by omega
              clear hT hX hYz HM Hg hY0 hxc hxm hyc hym
              go_wp2_with fail
              go_loopw [5, 8] (fun xv iv wr => ∃ i : Nat, i ≤ t ∧ iv = .int .i64 i ∧ Own w.heap.size 100 wr xv (lim (2 ^ i * G')) ∧ Below w.heap.size w wr) (fun _ iv _ => t - (intOf iv).toNat)
              case atStart => exact ⟨0, Nat.zero_le _, rfl, HS.out⟩
              case round =>
                clear HS
                obtain ⟨i, hit, rfl, hox, hbw⟩ := hrel
                obtain ⟨zo, zc, rfl, hzc, hzm⟩ := hox.num.ao
                by_cases hlt : i < t
                · have hlt' : (i : Int) < (t : Int) := by omega
                  have hll : (lim (2 ^ i * G')).length ≤ 4000 := by
                    refine lim_le_k ?_ HGP.out.2
                    rw [← HG2.out]
                    exact Nat.mul_le_mul_right _ (Nat.pow_le_pow_right (by decide) (by omega))
                  obtain ⟨zl, hzl⟩ : ∃ l, l = (lim (2 ^ i * G')).length := ⟨_, rfl⟩
                  rw [← hzl] at hox hzc ⊢
                  clear hzl
                  go_wp2_with fail
                  refine (double_ref _ _ 0 _ hox.num (by omega) (by decide)).mono ?_
                  rintro e w9 ⟨d, ds, rfl, hod, hdv, hdl, hnorm, b9⟩
                  rw [val_lim] at hnorm
                  have HN : Hid (Own w.heap.size 100 w9 d (lim (2 ^ (i + 1) * G')) ∧ Below w.heap.size w w9) := by
                    have e1 := hnorm rfl
                    rw [e1] at hod
                    refine ⟨?_, bstep hbw b9⟩
                    rw [Nat.pow_succ, Nat.mul_comm (2 ^ i) 2, Nat.mul_assoc]
                    exact hod.mono hbw.size
                  obtain ⟨do_, dl, dc, rfl⟩ := hod.sl
                  clear hod hdv hdl hnorm b9 hox hbw
                  go_wp2
                  go_roundw
                  case rel => exact ⟨i + 1, by omega, by go_num, HN.out⟩
                  case measure => simp [intOf]; omega
                · have hlt' : ¬ (i : Int) < (t : Int) := by omega
                  have hit2 : i = t := by omega
                  have HE : Hid (Made' w.heap.size w (lim G) (.returned (.slice zo (lim (2 ^ i * G')).length zc)) wr) := ⟨_, rfl, by rw [← HG2.out, ← hit2]; exact hox, hbw⟩
                  generalize (lim (2 ^ i * G')).length = zl at *
                  clear hox hbw hit2
                  go_wp2_with fail
                  go_ret
                  exact HE.out
            · have hyz : 0 < yl := by omega
              have hYp : Y ≠ 0 := by intro h; apply hY0; rw [HYL.out, h]; rfl
              have HS : Hid (Two w.heap.size w wr (.slice xo xl xc) (.slice yo yl yc) X Y ∧ X ≠ 0 ∧ X ≤ X ∧ Nat.gcd X Y = G' ∧ Y ≠ 0) := ⟨hT, hX, Nat.le_refl _, Hg.out, hYp⟩
              clear hT hX Hg hY0 hYp hxc hxm hlx HXL
              go_wp2_with fail
              go_loopw [5] (fun xv wr => ∃ (X1 : Nat), Two w.heap.size w wr xv (.slice yo yl yc) X1 Y ∧ X1 ≠ 0 ∧ X1 ≤ X ∧ Nat.gcd X1 Y = G' ∧ Y ≠ 0) (fun xv wr => valAt wr xv)
              case atStart => exact ⟨X, HS.out⟩
              case round =>
                clear HS
                obtain ⟨X1, hT, hX, hXl, hg1, hYp⟩ := hrel
                obtain ⟨xo1, xl1, xc1, rfl⟩ := hT.ox.sl
                have HM1 : Hid (valAt wr (.slice xo1 xl1 xc1) = X1) := by show _ = _; rw [valAt_eq hT.ox.num, val_lim]
                have hev := even_ref _ _ wr hT.ox.num
                rw [val_lim] at hev
                by_cases hx2 : X1 % 2 = 0
                · rw [decide_eq_true hx2] at hev
                  have HX2 : Hid (X1 % 2 = 0) := hx2
                  clear hx2
                  go_wp2_with fail
                  refine hev.mono ?_
                  rintro e w6 ⟨rfl, rfl⟩
                  clear hev
                  go_wp2_with fail
                  refine (half_ref _ _ _ hT.ox.num (Nat.le_trans hT.lx (by decide))).mono ?_
                  rw [val_lim]
                  rintro e w7 ⟨x2, rfl, ho2, b7⟩
                  have HN : Hid (Two w.heap.size w w7 x2 (.slice yo yl yc) (X1 / 2) Y ∧ X1 / 2 ≠ 0 ∧ X1 / 2 ≤ X ∧ Nat.gcd (X1 / 2) Y = G' ∧ Y ≠ 0) :=
                    ⟨⟨ho2.mono hT.bel.size, hT.oy.below b7, lim_half hT.lx, hT.ly, bstep hT.bel b7⟩, by have := HX2.out; omega, by omega, gcd_half_left hg1 HO.out HX2.out, hYp⟩
                  have HLT : Hid (valAt w7 x2 < X1) := by show _ < _; rw [valAt_eq ho2.num, val_lim]; omega
                  obtain ⟨xo2, xl2, xc2, rfl⟩ := ho2.sl
                  clear ho2 b7 hT hX hXl hg1 hYp
                  go_wp2_with fail
                  go_roundw
                  case rel => exact ⟨_, HN.out⟩
                  case measure => rw [HM1.out]; exact HLT.out
                · rw [decide_eq_false hx2] at hev
                  have HX1 : Hid (X1 ≠ 0 ∧ X1 ≤ X ∧ X1 % 2 = 1) := ⟨hX, hXl, by omega⟩
                  have HS : Hid (Two w.heap.size w wr (.slice xo1 xl1 xc1) (.slice yo yl yc) X1 Y ∧ Y ≠ 0 ∧ Y ≤ Y ∧ Nat.gcd X1 Y = G') := ⟨hT, hYp, Nat.le_refl _, hg1⟩
                  clear hX hXl hx2 hT hg1 hYp HM1 hyc hym hly HYL
                  go_wp2_with fail
                  refine hev.mono ?_
                  rintro e w6 ⟨rfl, rfl⟩
                  clear hev
                  go_wp2_with fail
                  go_loopw [6] (fun yv wr => ∃ (Y1 : Nat), Two w.heap.size w wr (.slice xo1 xl1 xc1) yv X1 Y1 ∧ Y1 ≠ 0 ∧ Y1 ≤ Y ∧ Nat.gcd X1 Y1 = G') (fun yv wr => valAt wr yv)
                  case atStart => exact ⟨Y, HS.out⟩
                  case round =>
                    clear HS
                    obtain ⟨Y1, hT, hYp, hYl, hg1⟩ := hrel
                    obtain ⟨yo1, yc1, rfl, hyc, hym⟩ := hT.oy.num.ao
                    obtain ⟨yl1, hyl1⟩ : ∃ l, l = (lim Y1).length := ⟨_, rfl⟩
                    have hl0 := lim_ne_len hYp
                    have hly := hT.ly
                    rw [← hyl1] at hT hyc hl0 hly ⊢
                    clear hyl1
                    have HM1 : Hid (valAt wr (.slice yo1 yl1 yc1) = Y1) := by show _ = _; rw [valAt_eq hT.oy.num, val_lim]
                    have hev := even_ref _ _ wr hT.oy.num
                    rw [val_lim] at hev
                    by_cases hy2 : Y1 % 2 = 0
                    · rw [decide_eq_true hy2] at hev
                      have HY2 : Hid (Y1 % 2 = 0) := hy2
                      clear hy2
                      go_wp2_with fail
                      refine hev.mono ?_
                      rintro e w6 ⟨rfl, rfl⟩
                      clear hev
                      go_wp2_with fail
                      refine (half_ref _ _ _ hT.oy.num (Nat.le_trans hT.ly (by decide))).mono ?_
                      rw [val_lim]
                      rintro e w7 ⟨x2, rfl, ho2, b7⟩
                      have HN : Hid (Two w.heap.size w w7 (.slice xo1 xl1 xc1) x2 X1 (Y1 / 2) ∧ Y1 / 2 ≠ 0 ∧ Y1 / 2 ≤ Y ∧ Nat.gcd X1 (Y1 / 2) = G') :=
                        ⟨⟨hT.ox.below b7, ho2.mono hT.bel.size, hT.lx, lim_half hT.ly, bstep hT.bel b7⟩, by have := HY2.out; omega, by omega, gcd_half_right hg1 HO.out HY2.out⟩
                      have HLT : Hid (valAt w7 x2 < Y1) := by show _ < _; rw [valAt_eq ho2.num, val_lim]; omega
                      obtain ⟨xo2, xl2, xc2, rfl⟩ := ho2.sl
                      clear ho2 b7 hT hYp hYl hg1 hyc hym hl0 hly
                      go_wp2_with fail
                      go_roundw
                      case rel => exact ⟨_, HN.out⟩
                      case measure => rw [HM1.out]; exact HLT.out
                    · rw [decide_eq_false hy2] at hev
                      have HY1 : Hid (Y1 ≠ 0 ∧ Y1 ≤ Y) := ⟨hYp, hYl⟩
                      clear hYp hYl hy2 HM1
                      go_wp2_with fail
                      refine hev.mono ?_
                      rintro e w6 ⟨rfl, rfl⟩
                      clear hev
                      have hcmp := cmp_ref _ _ _ _ w6 hT.ox.num hT.oy.num (Nat.le_trans hT.lx (by decide)) (Nat.le_trans hT.ly (by decide))
                      rw [val_lim, val_lim] at hcmp
                      by_cases hc : Y1 < X1
                      · rw [cmpN_gt hc] at hcmp
                        have hsub := sub_ref_yes _ _ _ _ w6 hT.ox.num hT.oy.num (Nat.le_trans hT.lx (by decide)) (Nat.le_trans hT.ly (by decide)) (by rw [val_lim, val_lim]; omega)
                        rw [val_lim, val_lim] at hsub
                        have HC : Hid (Y1 < X1) := hc
                        clear hc
                        go_wp2_with fail
                        refine hcmp.mono ?_
                        rintro e w7 ⟨rfl, rfl⟩
                        go_wp2_with fail
                        refine hsub.mono ?_
                        rintro e w8 ⟨d, rfl, hod, b8⟩
                        have HN : Hid (Two w.heap.size w w8 (.slice yo1 yl1 yc1) d Y1 (X1 - Y1) ∧ Y1 ≠ 0 ∧ Nat.gcd Y1 (X1 - Y1) = G') :=
                          ⟨⟨hT.oy.below b8, hod.mono hT.bel.size, hT.ly, lim_diff hT.lx, bstep hT.bel b8⟩, HY1.out.1, by rw [gcd_less (Nat.le_of_lt HC.out), Nat.gcd_comm]; exact hg1⟩
                        have HLT : Hid (valAt w8 (.slice yo1 yl1 yc1) + valAt w8 d < X + Y) := by
                          show _ < _
                          rw [valAt_eq HN.out.1.ox.num, valAt_eq HN.out.1.oy.num, val_lim, val_lim]
                          have := HC.out; have := HY1.out; have := HX1.out; omega
                        obtain ⟨xo2, xl2, xc2, rfl⟩ := hod.sl
                        clear hod b8 hT hg1 hcmp hsub hyc hym hl0 hly
                        go_wp2_with fail
                        go_roundw
                        case rel => exact ⟨_, _, HN.out⟩
                        case measure => rw [HM.out]; exact HLT.out
                      · have hcm : ¬ (0 : Int) < cmpN X1 Y1 := by
                          rcases cmpN_cases X1 Y1 with ⟨h, e⟩ | ⟨h, e⟩ | ⟨h, e⟩ <;> rw [e] <;> omega
                        have hsub := sub_ref_yes _ _ _ _ w6 hT.oy.num hT.ox.num (Nat.le_trans hT.ly (by decide)) (Nat.le_trans hT.lx (by decide)) (by rw [val_lim, val_lim]; omega)
                        rw [val_lim, val_lim] at hsub
                        have HC : Hid (X1 ≤ Y1) := by show _ ≤ _; omega
                        generalize cmpN X1 Y1 = cm at *
                        clear hc
                        go_wp2_with fail
                        refine hcmp.mono ?_
                        rintro e w7 ⟨rfl, rfl⟩
                        go_wp2_with fail
                        refine hsub.mono ?_
                        rintro e w8 ⟨d, rfl, hod, b8⟩
                        have HN : Hid (Two w.heap.size w w8 (.slice xo1 xl1 xc1) d X1 (Y1 - X1) ∧ X1 ≠ 0 ∧ Nat.gcd X1 (Y1 - X1) = G') :=
                          ⟨⟨hT.ox.below b8, hod.mono hT.bel.size, hT.lx, lim_diff hT.ly, bstep hT.bel b8⟩, HX1.out.1, by rw [gcd_less HC.out]; exact hg1⟩
                        have HLT : Hid (valAt w8 (.slice xo1 xl1 xc1) + valAt w8 d < X + Y) := by
                          show _ < _
                          rw [valAt_eq HN.out.1.ox.num, valAt_eq HN.out.1.oy.num, val_lim, val_lim]
                          have := HC.out; have := HY1.out; have := HX1.out; omega
                        obtain ⟨xo2, xl2, xc2, rfl⟩ := hod.sl
                        clear hod b8 hT hg1 hcmp hsub hyc hym hl0 hly
                        go_wp2_with fail
                        go_roundw
                        case rel => exact ⟨_, _, HN.out⟩
                        case measure => rw [HM.out]; exact HLT.out
end Go.Proofs.YtaafijifiiiblaaGreat
