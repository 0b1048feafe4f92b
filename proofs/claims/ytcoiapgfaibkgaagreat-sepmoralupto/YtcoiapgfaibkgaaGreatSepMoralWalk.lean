/-
  Proved here: the law SepMoral answers true.
-/
import Derived.Test.YtcoiapgfaibkgaaGreatMbM
namespace Go.Proofs.YtcoiapgfaibkgaaGreat
set_option linter.unusedVariables false
open Go.RowKit Go.Shelf Go.Sort Go.Lib
/-- Whether the flood came to none of some points. -/
def CuP (f : Nat → Bool) (G Y : List Int) (c : Bool) : Prop := c = true ↔ ¬ ∃ k : Nat, (k : Int) ∈ Y ∧ (k : Int) ∉ G ∧ f k = true
theorem CuP.zero (f : Nat → Bool) (G : List Int) : CuP f G [] true := by unfold CuP; simp
theorem CuP.skip {f : Nat → Bool} {G Y : List Int} {c : Bool} (h : CuP f G Y c) {k : Nat} (hk : (k : Int) ∈ G ∨ f k = false) : CuP f G (Y ++ [(k : Int)]) c := by
  unfold CuP at *
  rw [h]
  constructor
  · rintro h1 ⟨j, hj, hg, hf⟩
    rcases List.mem_append.1 hj with h2 | h2
    · exact h1 ⟨j, h2, hg, hf⟩
    · have e : j = k := by have := List.mem_singleton.1 h2; omega
      subst e
      rcases hk with hk | hk
      · exact hg hk
      · rw [hk] at hf; simp at hf
  · rintro h1 ⟨j, hj, hg, hf⟩
    exact h1 ⟨j, List.mem_append_left _ hj, hg, hf⟩
theorem CuP.hit {f : Nat → Bool} {G Y : List Int} {c : Bool} {k : Nat} (hg : (k : Int) ∉ G) (hf : f k = true) : CuP f G (Y ++ [(k : Int)]) false := by
  unfold CuP
  constructor
  · intro h; simp at h
  · intro h; exact (h ⟨k, List.mem_append_right _ (List.mem_singleton.2 rfl), hg, hf⟩).elim
def ImM (r : Bool) (Q : Prop) : Prop := r = true ↔ ¬ Q
set_option maxRecDepth 1000000 in
set_option maxHeartbeats 12800000 in
theorem sepMoral_top (lv : Value) (lvs : List Value) (P0 : List (List Int)) (av : Value) (a0 : List Int) (bv : Value) (b0 : List Int) (zv : Value) (Z0 : List Int) (w : World) (hl : RRD w lv lvs P0) (hlb : ∀ i, (P0.getD i []).length ≤ 1048576) (ha : RG (Value.int .i64) w av a0) (hb : RG (Value.int .i64) w bv b0) (hz : RG (Value.int .i64) w zv Z0) (hsum : a0.length + b0.length + Z0.length ≤ 1048576) :
    Calls Tryz.prog 6 #[lv, av, bv, zv] w fun e w' => e = .returned (.bool true) ∧ Below w.heap.size w w' := by
  obtain ⟨i0, hi, hz0, hz1, hz2⟩ := info_parts Tryz.infoI
  have CA : Hid _ := alive16 w
  have CM : Hid (∀ W, Below w.heap.size w W → Calls Tryz.prog 22 #[lv] W fun e w' => ∃ v vs P, e = .returned v ∧ P.length ≤ 30 ∧ MnI W.heap.size W w' P v vs) := fun W hW => mended16 lv lvs P0 W (hl.below (Nat.le_refl _) hW) hlb
  have CX : Hid (∀ W (n : Nat), Below w.heap.size w W → n ≤ 30 → Calls Tryz.prog 23 #[av, .int .i64 (n : Int)] W fun e w' => ∃ u M, e = .returned u ∧ OG (Value.int .i64) W.heap.size 3 w' u M ∧ PtsI n M ∧ M.length ≤ a0.length ∧ Below W.heap.size W w') := fun W n hW hn => points16 av a0 n W (ha.below (Nat.le_refl _) hW) (by omega) (by omega)
  have CY : Hid (∀ W (n : Nat), Below w.heap.size w W → n ≤ 30 → Calls Tryz.prog 23 #[bv, .int .i64 (n : Int)] W fun e w' => ∃ u M, e = .returned u ∧ OG (Value.int .i64) W.heap.size 3 w' u M ∧ PtsI n M ∧ M.length ≤ b0.length ∧ Below W.heap.size W w') := fun W n hW hn => points16 bv b0 n W (hb.below (Nat.le_refl _) hW) (by omega) (by omega)
  have CZ : Hid (∀ W (n : Nat), Below w.heap.size w W → n ≤ 30 → Calls Tryz.prog 23 #[zv, .int .i64 (n : Int)] W fun e w' => ∃ u M, e = .returned u ∧ OG (Value.int .i64) W.heap.size 3 w' u M ∧ PtsI n M ∧ M.length ≤ Z0.length ∧ Below W.heap.size W w') := fun W n hW hn => points16 zv Z0 n W (hz.below (Nat.le_refl _) hW) (by omega) (by omega)
  have HSUM : Hid (a0.length + b0.length + Z0.length ≤ 1048576) := hsum
  clear hl hlb ha hb hz hsum
  go_enter Tryz.func6, Tryz.ntmps6
  go_wp2_with fail
  refine Calls.mono CA.out ?_
  rintro e y1 ⟨rfl, b1⟩
  have B1 : Hid (Below w.heap.size w y1) := b1
  have CM1 : Hid _ := CM.out y1 b1
  clear CA CM b1
  go_wp2_with fail
  refine Calls.mono CM1.out ?_
  rintro e y2 ⟨pv, pvs, P, rfl, hP30, hM⟩
  obtain ⟨po, pn, pc, rfl⟩ : ∃ o n c, pv = .slice o n c := by obtain ⟨ao, cap, e⟩ := hM.row.rg.sl; exact ⟨_, _, _, e⟩
  have hpn : P.length = pn := by rw [← hM.len]; exact hM.row.rg.len
  have hp30 : pn ≤ 30 := by omega
  have B2 : Hid (Below w.heap.size w y2) := bstepB B1.out hM.frm
  have HR : Hid (∀ W, Below y2.heap.size y2 W → RRD W (.slice po pn pc) pvs P) := fun W hW => hM.rrd.below (Nat.le_refl _) hW
  have HMN : Hid (∀ j, MnL j (P.getD j [])) := hM.mnd
  have HPN : Hid (P.length = pn) := hpn
  have HP30 : Hid (P.length ≤ 30) := hP30
  have CX1 : Hid _ := CX.out y2 pn B2.out hp30
  clear CM1 hM B1 hpn hP30 CX
  go_wp2_with fail
  refine Calls.mono CX1.out ?_
  rintro e y3 ⟨xv, X, rfl, hoX, pX, hxl, b3⟩
  obtain ⟨xo, xn, xc, rfl⟩ : ∃ o n c, xv = .slice o n c := by obtain ⟨ao, cap, e⟩ := hoX.rg.sl; exact ⟨_, _, _, e⟩
  have HB3 : Hid (Below y2.heap.size y2 y3) := b3
  have HX : Hid (∀ W, Below y3.heap.size y3 W → RG (Value.int .i64) W (.slice xo xn xc) X) := fun W hW => hoX.rg.below (Nat.le_refl _) hW
  have PX : Hid (PtsI pn X) := pX
  have HXL : Hid (X.length ≤ a0.length) := hxl
  have CY1 : Hid _ := CY.out y3 pn (bstepB B2.out b3) hp30
  clear CX1 hoX pX hxl b3 CY
  go_wp2_with fail
  refine Calls.mono CY1.out ?_
  rintro e y4 ⟨yv, Y, rfl, hoY, pY, hyl, b4⟩
  obtain ⟨yo, yn, yc, rfl⟩ : ∃ o n c, yv = .slice o n c := by obtain ⟨ao, cap, e⟩ := hoY.rg.sl; exact ⟨_, _, _, e⟩
  have HB4 : Hid (Below y2.heap.size y2 y4) := bstepB HB3.out b4
  have HC4 : Hid (Below y3.heap.size y3 y4) := b4
  have HY : Hid (∀ W, Below y4.heap.size y4 W → RG (Value.int .i64) W (.slice yo yn yc) Y) := fun W hW => hoY.rg.below (Nat.le_refl _) hW
  have PY : Hid (PtsI pn Y) := pY
  have HYL : Hid (Y.length ≤ b0.length) := hyl
  have hynl : yn ≤ 1048576 := by have := hoY.rg.len; have := HSUM.out; omega
  have HYN : Hid (Y.length = yn) := hoY.rg.len
  have CZ1 : Hid _ := CZ.out y4 pn (bstepB B2.out HB4.out) hp30
  clear CY1 hoY pY hyl b4 CZ HB3
  go_wp2_with fail
  refine Calls.mono CZ1.out ?_
  rintro e y5 ⟨qv, G, rfl, hoG, pG, hgl, b5⟩
  obtain ⟨qo, qn, qc, rfl⟩ : ∃ o n c, qv = .slice o n c := by obtain ⟨ao, cap, e⟩ := hoG.rg.sl; exact ⟨_, _, _, e⟩
  have HB5 : Hid (Below y2.heap.size y2 y5) := bstepB HB4.out b5
  have HC5 : Hid (Below y3.heap.size y3 y5) := bstepB HC4.out b5
  have HD5 : Hid (Below y4.heap.size y4 y5) := b5
  have HG : Hid (∀ W, Below y5.heap.size y5 W → RG (Value.int .i64) W (.slice qo qn qc) G) := fun W hW => hoG.rg.below (Nat.le_refl _) hW
  have PG : Hid (PtsI pn G) := pG
  have HGL : Hid (G.length ≤ Z0.length) := hgl
  have CP : Hid _ := apartM P HMN.out HP30.out (.slice po pn pc) (.slice xo xn xc) (.slice yo yn yc) (.slice qo qn qc) pvs X Y G y5 (HR.out y5 HB5.out) (HX.out y5 HC5.out) (by have := HXL.out; have := HSUM.out; omega) (HY.out y5 HD5.out) (by have := HYL.out; have := HSUM.out; omega) (HG.out y5 (Below.refl _ _)) (by have := HGL.out; have := HSUM.out; omega) (by rw [HPN.out]; exact PX.out) (by rw [HPN.out]; exact PY.out) (by rw [HPN.out]; exact PG.out)
  clear CZ1 hoG pG hgl b5 HB4 HC4
  go_wp2_with fail
  refine Calls.mono CP.out ?_
  rintro e y6 ⟨r, rfl, hr, b6⟩
  have HRR : Hid (ImM r (∃ x ∈ X, ∃ y ∈ Y, TelM P G x y)) := hr
  have HE6 : Hid (Below y5.heap.size y5 y6) := b6
  have HXS : Hid (X.length + Y.length + G.length ≤ 1048576) := by have := HXL.out; have := HYL.out; have := HGL.out; have := HSUM.out; show _ ≤ _; omega
  clear CP hr b6 HXL HYL HGL HSUM
  go_wp2_with (at_builtin; refine wpList_appG _ (fun _ => rfl) rfl _ _ 23 rfl y6.heap.size 3 i0 (.int .i64 0) 8 Tryz.underlying23 hi hz0 hz1 hz2 rfl _ _ [] X rfl (OG.nil _ _ _) rfl (HX.out y6 (bstepB HC5.out HE6.out)) (by have := HXS.out; unfold maxLen; simp only [List.length_nil]; omega) (by have := HXS.out; simp only [List.length_nil]; omega) (Nat.le_refl _) ?_)
  intro v0 y7 ho0 hg0
  obtain ⟨o0, n0, c0, rfl⟩ : ∃ o n c, v0 = .slice o n c := by obtain ⟨ao, cap, e, -⟩ := ho0.sl; exact ⟨_, _, _, e⟩
  have HO0 : Hid (OG (Value.int .i64) y6.heap.size 3 y7 (.slice o0 n0 c0) X) := ho0
  have HB7 : Hid (Below y6.heap.size y6 y7) := (OG.nil (enc := Value.int .i64) y6.heap.size 3 y6).grown (Below.refl _ _) (Nat.le_refl _) hg0
  clear ho0 hg0
  go_wp2_with (at_builtin; refine wpList_appG _ (fun _ => rfl) rfl _ _ 23 rfl y6.heap.size 3 i0 (.int .i64 0) 8 Tryz.underlying23 hi hz0 hz1 hz2 rfl _ _ X Y rfl HO0.out rfl (HY.out y7 (bstepB HD5.out (bstepB HE6.out HB7.out))) (by have := HXS.out; unfold maxLen; omega) (by have := HXS.out; omega) HB7.out.size ?_)
  intro v1 y8 ho1 hg1
  obtain ⟨o1, n1, c1, rfl⟩ : ∃ o n c, v1 = .slice o n c := by obtain ⟨ao, cap, e, -⟩ := ho1.sl; exact ⟨_, _, _, e⟩
  have HO1 : Hid (OG (Value.int .i64) y6.heap.size 3 y8 (.slice o1 n1 c1) (X ++ Y)) := ho1
  have HB8 : Hid (Below y6.heap.size y6 y8) := HO0.out.grown HB7.out HB7.out.size hg1
  clear ho1 hg1 HO0 HB7
  go_wp2_with (at_builtin; refine wpList_appG _ (fun _ => rfl) rfl _ _ 23 rfl y6.heap.size 3 i0 (.int .i64 0) 8 Tryz.underlying23 hi hz0 hz1 hz2 rfl _ _ (X ++ Y) G rfl HO1.out rfl (HG.out y8 (bstepB HE6.out HB8.out)) (by have := HXS.out; rw [List.length_append]; unfold maxLen; omega) (by have := HXS.out; rw [List.length_append]; omega) HB8.out.size ?_)
  intro v2 y9 ho2 hg2
  obtain ⟨o2, n2, c2, rfl⟩ : ∃ o n c, v2 = .slice o n c := by obtain ⟨ao, cap, e, -⟩ := ho2.sl; exact ⟨_, _, _, e⟩
  have HB9 : Hid (Below y6.heap.size y6 y9) := HO1.out.grown HB8.out HB8.out.size hg2
  have HF9 : Hid (Below y5.heap.size y5 y9) := bstepB HE6.out HB9.out
  have HNO : Hid (noPts (pn : Int) (X ++ Y ++ G) = false) := by show _ = _; rw [no_appM, no_appM, pts_no PX.out, pts_no PY.out, pts_no PG.out]; rfl
  have CV : Hid _ := aboveD (.slice po pn pc) (.slice o2 n2 c2) pvs P (X ++ Y ++ G) y9 (HR.out y9 (bstepB HB5.out HF9.out)) pn HPN.out (by omega) (fun i => by have h1 := len_cl (ck_zero (mn_ck HMN.out)) i; have h2 := HP30.out; omega) (by rw [List.append_assoc]; exact ho2.rg) (by have := HXS.out; rw [List.length_append, List.length_append]; omega)
  clear ho2 hg2 HO1 HB8 HXS
  go_wp2_with fail
  refine Calls.mono CV.out ?_
  rintro e y10 ⟨hab, b10⟩
  obtain ⟨tv, R, rfl, hR1, -, hR3⟩ : ∃ tv R, e = .returned (.tuple #[tv, .int .i64 0]) ∧ OG (Value.int .i64) y9.heap.size 3 y10 tv R ∧ R.Pairwise (· < ·) ∧ ∀ x, x ∈ R ↔ RchP P (X ++ Y ++ G) x := by
    rcases hab with ⟨h1, _⟩ | ⟨_, ⟨h1, _⟩ | ⟨_, tv, R, h2, h3, h4, h5⟩⟩
    · exact absurd (mn_ck HMN.out) h1
    · rw [HNO.out] at h1; simp at h1
    · exact ⟨tv, R, h2, h3, h4, h5⟩
  obtain ⟨tO, tn, tc, rfl⟩ : ∃ o n c, tv = .slice o n c := by obtain ⟨ao, cap, e, -⟩ := hR1.sl; exact ⟨_, _, _, e⟩
  have HF10 : Hid (Below y5.heap.size y5 y10) := bstepB HF9.out b10
  have HRM : Hid (∀ x, x ∈ R ↔ RchP P (X ++ Y ++ G) x) := hR3
  have HRN : Hid (∀ x ∈ R, ∃ p : Nat, x = (p : Int) ∧ p < pn) := fun x hx => rch_pt (mn_pts HMN.out) HPN.out HNO.out ((hR3 x).1 hx)
  have CMO : Hid _ := moral16 (.slice po pn pc) (.slice tO tn tc) pvs P R y10 (HR.out y10 (bstepB HB5.out HF10.out)) pn HPN.out (by omega) (fun i x hx => by obtain ⟨p, e, hp⟩ := mn_pts HMN.out i x hx; exact ⟨p, e, by rw [← HPN.out]; exact hp⟩) hR1.rg HRN.out
  clear CV hab b10 hR1 hR3 HF9 HB9 HE6
  go_wp2_with fail
  refine Calls.mono CMO.out ?_
  rintro e y11 ⟨gm, rfl, ⟨cvs, M, hMb, hSt⟩, b11⟩
  have HF11 : Hid (Below y5.heap.size y5 y11) := bstepB HF10.out b11
  have HST : Hid (StM pn M (MoG P R)) := hSt
  have CFL : Hid _ := flood16 y10.heap.size gm pn cvs M (.slice xo xn xc) (.slice qo qn qc) X G y11 hMb (by omega) (HX.out y11 (bstepB HC5.out HF11.out)) PX.out (HG.out y11 HF11.out)
  clear CMO hMb hSt b11 HF10
  go_wp2_with fail
  refine Calls.mono CFL.out ?_
  rintro e y12 ⟨gr, rfl, ⟨f, hof, hfe⟩, b12⟩
  have HF12 : Hid (Below y5.heap.size y5 y12) := bstepB HF11.out b12
  have HOF : Hid (∀ W, Below y12.heap.size y12 W → OG Value.bool y11.heap.size 4 W (.slice (some ⟨gr, 0, none⟩) pn pn) (rowB pn f)) := fun W hW => hof.below hW
  have HLW : Hid ((∃ x ∈ X, ∃ y ∈ Y, TelM P G x y) ↔ ∃ k : Nat, (k : Int) ∈ Y ∧ (k : Int) ∉ G ∧ f k = true) := by
    have h1 := HPN.out
    subst h1
    exact moral_law HMN.out PX.out PY.out PG.out HRM.out HRN.out HST.out hfe
  have HCU : Hid (CuP f G (Y.take 0) true) := CuP.zero f G
  have HY12 : Hid (Below y12.heap.size y12 y12) := Below.refl _ _
  clear CFL hof hfe b12 HF11 HST HRM HRN HNO
  go_wp2
  go_loopg [21, 22] yn (fun g1 v21 v22 wr => ∃ (i : Nat) (c : Bool), v22 = .int .i64 i ∧ v21 = .bool c ∧ i ≤ yn ∧ yn - i ≤ g1 ∧ Hid (CuP f G (Y.take i) c) ∧ Hid (Below y12.heap.size y12 wr))
  case atStart => exact ⟨0, true, rfl, rfl, by omega, by omega, HCU, HY12⟩
  case round =>
    clear HCU HY12
    obtain ⟨i, c, rfl, rfl, hin, hg1, HCU, HYY⟩ := hrel
    by_cases hlt : i < yn
    · have hltz : (i : Int) < (yn : Int) := by omega
      have HF13 : Hid (Below y5.heap.size y5 wr) := bstepB HF12.out HYY.out
      obtain ⟨x, gx, ox, hx1, rfl, hx2⟩ := (HY.out wr (bstepB HD5.out HF13.out)).at hlt
      obtain ⟨p, rfl, hp⟩ := PY.out x (List.mem_of_getElem? hx1)
      have hpz : (p : Int) < (pn : Int) := by omega
      have CH : Hid _ := has16 (.slice qo qn qc) G (p : Int) wr (HG.out wr HF13.out)
      obtain ⟨b, hb⟩ : ∃ b, b = decide ((p : Int) ∈ G) := ⟨_, rfl⟩
      rw [← hb] at CH
      have HBB : Hid (b = decide ((p : Int) ∈ G)) := hb
      have HTK : Hid (Y.take (i + 1) = Y.take i ++ [(p : Int)]) := by show _ = _; rw [List.take_add_one, hx1]; rfl
      obtain ⟨d, hd⟩ : ∃ d, d = f p := ⟨_, rfl⟩
      have hc1 := ((HOF.out wr HYY.out).cell (rowB_get (f := f) hp)).1
      rw [← hd] at hc1
      have HD : Hid (d = f p) := hd
      clear hb hx1 hd HF13
      go_wp2_with fail
      refine Calls.mono CH.out ?_
      rintro e y ⟨rfl, hy⟩
      rw [hy]
      clear CH hy y
      cases b with
      | true =>
        have HC2 : Hid (CuP f G (Y.take (i + 1)) c) := by show CuP _ _ _ _; rw [HTK.out]; exact HCU.out.skip (Or.inl (of_decide_eq_true HBB.out.symm))
        clear HCU
        go_wp2
        clear hc1 hx2
        go_roundg (yn - (i + 1))
        case measure => omega
        case rel => exact ⟨i + 1, c, by first | rfl | go_num, rfl, by omega, Nat.le_refl _, HC2, HYY⟩
      | false =>
        cases d with
        | false =>
          have HC2 : Hid (CuP f G (Y.take (i + 1)) c) := by show CuP _ _ _ _; rw [HTK.out]; exact HCU.out.skip (Or.inr HD.out.symm)
          clear HCU
          go_wp2
          clear hc1 hx2
          go_roundg (yn - (i + 1))
          case measure => omega
          case rel => exact ⟨i + 1, c, by first | rfl | go_num, rfl, by omega, Nat.le_refl _, HC2, HYY⟩
        | true =>
          have HC2 : Hid (CuP f G (Y.take (i + 1)) false) := by show CuP _ _ _ _; rw [HTK.out]; exact CuP.hit (c := c) (of_decide_eq_false HBB.out.symm) HD.out.symm
          clear HCU
          go_wp2
          clear hc1 hx2
          go_roundg (yn - (i + 1))
          case measure => omega
          case rel => exact ⟨i + 1, false, by first | rfl | go_num, rfl, by omega, Nat.le_refl _, HC2, HYY⟩
    · have hltz : ¬ (i : Int) < (yn : Int) := by omega
      have hcr : r = c := by
        have h1 := HCU.out
        rw [List.take_of_length_le (by rw [HYN.out]; omega)] at h1
        unfold CuP at h1
        have h2 := HRR.out
        unfold ImM at h2
        rw [HLW.out] at h2
        exact Bool.eq_iff_iff.2 (h2.trans h1.symm)
      subst hcr
      have HFIN : Hid (Below w.heap.size w wr) := bstepB B2.out (bstepB HB5.out (bstepB HF12.out HYY.out))
      clear HCU HRR HLW
      cases r <;>
      · go_wp2
        go_ret
        exact ⟨rfl, HFIN.out⟩
end Go.Proofs.YtcoiapgfaibkgaaGreat
