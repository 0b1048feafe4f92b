/-
  Proved here: the law on trails: one is there just where two points are not apart, and it is open; walked.
-/
import Derived.Test.YtcoiapgfaibkgaaGreatSpAlAll
import Derived.Test.YtcoiapgfaibkgaaGreatSpB4All
import Derived.Test.YtcoiapgfaibkgaaGreatLate4
import Derived.Test.YtcoiapgfaibkgaaGreatSpLAll
namespace Go.Proofs.YtcoiapgfaibkgaaGreat
set_option linter.unusedVariables false
open Go.RowKit Go.Shelf Go.Sort Go.Lib
theorem OTr.ag {P : List (List Int)} {G A : List Int} {a : Int} {l : List Int} (h : OTr P G A a l) : a ∉ G := by
  induction h with
  | one h => exact h
  | two _ _ _ _ ih => exact ih
  | more _ _ _ _ _ ih => exact ih
theorem OpF.len {P : List (List Int)} {G A : List Int} {a : Int} {T : List Int} (h : OpF P G A a T) : T.length ≤ P.length := by
  refine len_nd P.length T (List.pairwise_iff_getElem.2 fun i j hi hj hij e => ?_) fun x hx => ?_
  · refine h.nd j T[j] (List.getElem?_eq_getElem hj) ?_
    rw [← e]
    exact List.mem_take_iff_getElem.2 ⟨i, by omega, rfl⟩
  · obtain ⟨i, hi, rfl⟩ := List.getElem_of_mem hx
    exact h.pts i _ (List.getElem?_eq_getElem hi)
/-- Whether something given has been seen below. -/
def SnP (G R : List Int) (s : Bool) (j : Nat) : Prop := s = true ↔ ∃ g ∈ G, g ∈ R.take j
/-- What the law asks of a trail. -/
def TrOk (P : List (List Int)) (G : List Int) (a b : Int) (T : List Int) : Prop := ∃ A, AbvP P G A ∧ OpF P G A a T ∧ T[T.length - 1]? = some b ∧ a ∉ G ∧ b ∉ G
set_option maxRecDepth 1000000 in
theorem trailM (P : List (List Int)) (hmn : ∀ j, MnL j (P.getD j [])) (hn : P.length ≤ 30) (pv qv : Value) (pvs : List Value) (a b : Int) (G : List Int) (w : World) (h : RRD w pv pvs P) (hq : RG (Value.int .i64) w qv G) (hql : G.length ≤ 1048576) (pa : PtsI P.length [a]) (pb : PtsI P.length [b]) (pG : PtsI P.length G) :
    Calls Tryz.prog 20 #[pv, .int .i64 a, .int .i64 b, qv] w fun e w' => ∃ v T, e = .returned (.tuple #[v, .int .i64 0]) ∧ OG (Value.int .i64) w.heap.size 3 w' v T ∧ ((T = [] ∧ ¬ TelM P G a b) ∨ (TelM P G a b ∧ TrOk P G a b T)) ∧ Below w.heap.size w w' := by
  have h0 := mn_wk hmn pa pG
  have h1 : apE P P.length [a] [b] G = 0 := by unfold apE; rw [h0, pts_no pb]; rfl
  have ha : ∃ p : Nat, a = (p : Int) ∧ p < P.length := pa a (by simp)
  refine (trailP pv qv pvs P a b G w h P.length rfl (by omega) hq hql).mono ?_
  rintro e w' ⟨v, he, -, hr, hbw⟩
  rw [h1] at he
  obtain ⟨A, hA, ho⟩ := hr h1
  have hiff := ends_m hmn pa pG hA b
  refine ⟨v, _, he, ho, ?_, hbw⟩
  unfold trR
  by_cases hb : b ∈ endsL (wkL P P.length [a] G A) G
  · rw [if_pos hb]
    right
    have ht : TelM P G a b := by obtain ⟨x, hx, hh⟩ := hiff.1 hb; rwa [List.mem_singleton.1 hx] at hh
    obtain ⟨l, h2, h3, -⟩ := trail_least h0 hA hb
    refine ⟨ht, A, hA, by rw [h2]; exact h3.places ha, ?_, h3.ag, ((ends_iff A rfl h0 b).1 hb).1⟩
    rw [h2, List.length_reverse, List.getElem?_reverse (by simp)]
    simp
  · rw [if_neg hb]
    left
    exact ⟨rfl, fun h => hb (hiff.2 ⟨a, by simp, h⟩)⟩
set_option maxRecDepth 1000000 in
set_option maxHeartbeats 25600000 in
theorem sepOpen_top (lv : Value) (lvs : List Value) (P0 : List (List Int)) (x0 y0 : Int) (zv : Value) (Z : List Int) (w : World) (hl : RRD w lv lvs P0) (hlb : ∀ i, (P0.getD i []).length ≤ 1048576) (hxw : (Lit.int .i64 x0).wf = true) (hyw : (Lit.int .i64 y0).wf = true) (hz : RG (Value.int .i64) w zv Z) (hzb : Z.length ≤ 1048576) :
    Calls Tryz.prog 7 #[lv, .int .i64 x0, .int .i64 y0, zv] w fun e w' => e = .returned (.bool true) ∧ Below w.heap.size w w' := by
  have CA : Hid _ := alive16 w
  have CM : Hid (∀ W, Below w.heap.size w W → Calls Tryz.prog 22 #[lv] W fun e w' => ∃ v vs P, e = .returned v ∧ P.length ≤ 30 ∧ MnI W.heap.size W w' P v vs) := fun W hW => mended16 lv lvs P0 W (hl.below (Nat.le_refl _) hW) hlb
  have CZ : Hid (∀ W (n : Nat), Below w.heap.size w W → n ≤ 30 → Calls Tryz.prog 23 #[zv, .int .i64 (n : Int)] W fun e w' => ∃ u M, e = .returned u ∧ OG (Value.int .i64) W.heap.size 3 w' u M ∧ PtsI n M ∧ M.length ≤ Z.length ∧ Below W.heap.size W w') := fun W n hW hn => points16 zv Z n W (hz.below (Nat.le_refl _) hW) hzb (by omega)
  have HZB : Hid (Z.length ≤ 1048576) := hzb
  clear hl hlb hz hzb hxw hyw
  go_enter Tryz.func7, Tryz.ntmps7
  go_wp2_with fail
  refine Calls.mono CA.out ?_
  rintro e y1 ⟨rfl, b1⟩
  have B1 : Hid (Below w.heap.size w y1) := b1
  have CM1 : Hid _ := CM.out y1 b1
  clear CA CM b1
  go_wp2_with fail
  refine Calls.mono CM1.out ?_
  rintro e y2 ⟨pv, pvs, P, rfl, hP30, hM⟩
  obtain ⟨po, pn, pc, rfl⟩ : ∃ o n c, pv = .slice o n c := by obtain ⟨ao, cap, e⟩ := hM.row.rg.sl; exact ⟨_, _, _, e⟩
  have hpn : P.length = pn := by rw [← hM.len]; exact hM.row.rg.len
  have hp30 : pn ≤ 30 := by omega
  have B2 : Hid (Below w.heap.size w y2) := bstepB B1.out hM.frm
  have HR2 : Hid (RRD y2 (.slice po pn pc) pvs P) := hM.rrd
  have HMN : Hid (∀ j, MnL j (P.getD j [])) := hM.mnd
  have HPN : Hid (P.length = pn) := hpn
  have HP30 : Hid (P.length ≤ 30) := hP30
  clear CM1 hM B1 hpn hP30
  by_cases hn0 : pn = 0
  · subst hn0
    go_wp2
    go_ret
    exact ⟨rfl, B2.out⟩
  have hnz : ((pn : Int) == 0) = false := beq_eq_false_iff_ne.2 (by omega)
  obtain ⟨W3, hW3⟩ : ∃ W, W = y2.alloc (.cells #[.int .i64 x0] 3) := ⟨_, rfl⟩
  obtain ⟨g3, hg3⟩ : ∃ g, g = y2.heap.size := ⟨_, rfl⟩
  have hb3 : Below y2.heap.size y2 W3 := by rw [hW3]; exact belowB _ _
  have hl3 : RG (Value.int .i64) W3 (.slice (some ⟨g3, 0, none⟩) 1 1) [x0] := by rw [hW3, hg3]; exact (OG.lit (enc := Value.int .i64) 3 y2 [x0] (by unfold maxLen; simp)).rg
  have CX : Hid _ := points16n (.slice (some ⟨g3, 0, none⟩) 1 1) [x0] pn W3 hl3 (by simp) (by omega)
  have HB3 : Hid (Below y2.heap.size y2 W3) := hb3
  have HW3 : Hid (W3 = y2.alloc (.cells #[.int .i64 x0] 3)) := hW3
  have HG3 : Hid (g3 = y2.heap.size) := hg3
  clear hW3 hg3 hb3 hl3
  go_wp2_with fail
  rw [← HW3.out, ← HG3.out]
  refine Calls.mono CX.out ?_
  rintro e y3 ⟨xv, M, rfl, hoM, pM, -, hML, by3⟩
  obtain ⟨m0, rfl⟩ : ∃ m0, M = [m0] := by
    have h1 := hML (by omega)
    match M, h1 with
    | [m0], _ => exact ⟨m0, rfl⟩
  obtain ⟨a, rfl, han⟩ := pM m0 (by simp)
  obtain ⟨mo, mn, mc, rfl⟩ : ∃ o n c, xv = .slice o n c := by obtain ⟨ao, cap, e, -⟩ := hoM.sl; exact ⟨_, _, _, e⟩
  obtain ⟨u, gm, om, hu1, rfl, hm2⟩ := hoM.rg.at (show 0 < mn by have := hoM.rg.len; simp at this; omega)
  have hue : u = ((a : Nat) : Int) := by simpa using hu1.symm
  subst hue
  change y3.cell? ⟨gm, om + 0, none⟩ = some (.int .i64 ((a : Nat) : Int)) at hm2
  rw [Nat.add_zero] at hm2
  have hmn0 : (0 : Int) < (mn : Int) := by have := hoM.rg.len; simp at this; omega
  have B3 : Hid (Below y2.heap.size y2 y3) := bstepB HB3.out by3
  clear CX HW3 HG3 HB3 hoM pM hML by3 hu1
  obtain ⟨W4, hW4⟩ : ∃ W, W = y3.alloc (.cells #[.int .i64 y0] 3) := ⟨_, rfl⟩
  obtain ⟨g4, hg4⟩ : ∃ g, g = y3.heap.size := ⟨_, rfl⟩
  have hb4 : Below y3.heap.size y3 W4 := by rw [hW4]; exact belowB _ _
  have hl4 : RG (Value.int .i64) W4 (.slice (some ⟨g4, 0, none⟩) 1 1) [y0] := by rw [hW4, hg4]; exact (OG.lit (enc := Value.int .i64) 3 y3 [y0] (by unfold maxLen; simp)).rg
  have CY : Hid _ := points16n (.slice (some ⟨g4, 0, none⟩) 1 1) [y0] pn W4 hl4 (by simp) (by omega)
  have HB4 : Hid (Below y3.heap.size y3 W4) := hb4
  have HW4 : Hid (W4 = y3.alloc (.cells #[.int .i64 y0] 3)) := hW4
  have HG4 : Hid (g4 = y3.heap.size) := hg4
  clear hW4 hg4 hb4 hl4
  go_wp2_with fail
  rw [← HW4.out, ← HG4.out]
  clear hm2 hmn0
  refine Calls.mono CY.out ?_
  rintro e y4 ⟨yv, M, rfl, hoM, pM, -, hML, by4⟩
  obtain ⟨m0, rfl⟩ : ∃ m0, M = [m0] := by
    have h1 := hML (by omega)
    match M, h1 with
    | [m0], _ => exact ⟨m0, rfl⟩
  obtain ⟨b, rfl, hbn⟩ := pM m0 (by simp)
  obtain ⟨mo2, mn2, mc2, rfl⟩ : ∃ o n c, yv = .slice o n c := by obtain ⟨ao, cap, e, -⟩ := hoM.sl; exact ⟨_, _, _, e⟩
  obtain ⟨u, gm2, om2, hu1, rfl, hm2⟩ := hoM.rg.at (show 0 < mn2 by have := hoM.rg.len; simp at this; omega)
  have hue : u = ((b : Nat) : Int) := by simpa using hu1.symm
  subst hue
  change y4.cell? ⟨gm2, om2 + 0, none⟩ = some (.int .i64 ((b : Nat) : Int)) at hm2
  rw [Nat.add_zero] at hm2
  have hmn0 : (0 : Int) < (mn2 : Int) := by have := hoM.rg.len; simp at this; omega
  have B4 : Hid (Below y2.heap.size y2 y4) := bstepB B3.out (bstepB HB4.out by4)
  have CZ1 : Hid _ := CZ.out y4 pn (bstepB B2.out B4.out) hp30
  clear CY HW4 HG4 HB4 hoM pM hML by4 hu1 B3 CZ
  go_wp2_with fail
  clear hm2 hmn0
  refine Calls.mono CZ1.out ?_
  rintro e y5 ⟨qv, G, rfl, hoq, pq, hql, b5⟩
  obtain ⟨qo, qn, qc, rfl⟩ : ∃ o n c, qv = .slice o n c := by obtain ⟨ao, cap, e⟩ := hoq.rg.sl; exact ⟨_, _, _, e⟩
  have B5 : Hid (Below y2.heap.size y2 y5) := bstepB B4.out b5
  have HQ5 : Hid (∀ W, Below y5.heap.size y5 W → RG (Value.int .i64) W (.slice qo qn qc) G) := fun W hW => hoq.rg.below (Nat.le_refl _) hW
  have HPG : Hid (PtsI P.length G) := by show PtsI _ _; rw [HPN.out]; exact pq
  have HQL : Hid (G.length ≤ 1048576) := Nat.le_trans hql HZB.out
  have HR5 : Hid (∀ W, Below y5.heap.size y5 W → RRD W (.slice po pn pc) pvs P) := fun W hW => HR2.out.below (Nat.le_refl _) (bstepB B5.out hW)
  have HPA : Hid (PtsI P.length [((a : Nat) : Int)]) := fun z hz => by rw [List.mem_singleton.1 hz]; exact ⟨a, rfl, by rw [HPN.out]; exact han⟩
  have HPB : Hid (PtsI P.length [((b : Nat) : Int)]) := fun z hz => by rw [List.mem_singleton.1 hz]; exact ⟨b, rfl, by rw [HPN.out]; exact hbn⟩
  have CT : Hid _ := trailM P HMN.out HP30.out (.slice po pn pc) (.slice qo qn qc) pvs ((a : Nat) : Int) ((b : Nat) : Int) G y5 (HR5.out y5 (Below.refl _ _)) (HQ5.out y5 (Below.refl _ _)) HQL.out HPA.out HPB.out HPG.out
  clear CZ1 hoq pq hql b5 B4 HR2 HZB
  go_wp2_with fail
  refine Calls.mono CT.out ?_
  rintro e y6 ⟨tv, T, rfl, hoT, hT, b6⟩
  obtain ⟨tO, tn, tc, rfl⟩ : ∃ o n c, tv = .slice o n c := by obtain ⟨ao, cap, e, -⟩ := hoT.sl; exact ⟨_, _, _, e⟩
  have HT6 : Hid (∀ W, Below y6.heap.size y6 W → OG (Value.int .i64) y5.heap.size 3 W (.slice tO tn tc) T) := fun W hW => hoT.below hW
  have HTN : Hid (T.length = tn) := hoT.rg.len
  have HTC : Hid (tn ≤ tc) := hoT.rg.room.1
  have HTT : Hid ((T = [] ∧ ¬ TelM P G (a : Int) (b : Int)) ∨ (TelM P G (a : Int) (b : Int) ∧ TrOk P G (a : Int) (b : Int) T)) := hT
  have B6 : Hid (Below y5.heap.size y5 y6) := b6
  have htnm : tn ≤ 9223372036854775807 := by have := hoT.rg.room.1; have := hoT.rg.room.2.1; unfold maxLen at *; omega
  clear CT hoT hT b6
  obtain ⟨V1, hV1⟩ : ∃ W, W = y6.alloc (.cells #[.int .i64 (a : Int)] 3) := ⟨_, rfl⟩
  obtain ⟨V2, hV2⟩ : ∃ W, W = V1.alloc (.cells #[.int .i64 (b : Int)] 3) := ⟨_, rfl⟩
  obtain ⟨h1, hh1⟩ : ∃ g, g = y6.heap.size := ⟨_, rfl⟩
  have c1 : Below y6.heap.size y6 V1 := by rw [hV1]; exact belowB _ _
  have c2 : Below V1.heap.size V1 V2 := by rw [hV2]; exact belowB _ _
  have hs1 : V1.heap.size = h1 + 1 := by rw [hV1, hh1]; simp
  have r1 : RG (Value.int .i64) V2 (.slice (some ⟨h1, 0, none⟩) 1 1) [((a : Nat) : Int)] := by
    have := (OG.lit (enc := Value.int .i64) 3 y6 [((a : Nat) : Int)] (by unfold maxLen; simp)).rg
    rw [← hh1] at this
    exact RG.below (by rw [hV1]; exact this) (Nat.le_refl _) c2
  have r2 : RG (Value.int .i64) V2 (.slice (some ⟨h1 + 1, 0, none⟩) 1 1) [((b : Nat) : Int)] := by
    have := (OG.lit (enc := Value.int .i64) 3 V1 [((b : Nat) : Int)] (by unfold maxLen; simp)).rg
    rw [hs1] at this
    rw [hV2]; exact this
  have C7 : Hid (Below y5.heap.size y5 V2) := bstepB (bstepB B6.out c1) c2
  have D7 : Hid (Below y6.heap.size y6 V2) := bstepB c1 c2
  have CP : Hid _ := apartM P HMN.out HP30.out (.slice po pn pc) (.slice (some ⟨h1, 0, none⟩) 1 1) (.slice (some ⟨h1 + 1, 0, none⟩) 1 1) (.slice qo qn qc) pvs [((a : Nat) : Int)] [((b : Nat) : Int)] G V2 (HR5.out V2 C7.out) r1 (by simp) r2 (by simp) (HQ5.out V2 C7.out) HQL.out HPA.out HPB.out HPG.out
  have HV2 : Hid (V2 = (y6.alloc (.cells #[.int .i64 (a : Int)] 3)).alloc (.cells #[.int .i64 (b : Int)] 3)) := by show _ = _; rw [hV2, hV1]
  have HH1 : Hid (h1 = y6.heap.size) := hh1
  clear hV1 hV2 hh1 c1 c2 hs1 r1 r2
  go_wp2_with fail
  rw [← HV2.out, ← HH1.out]
  refine Calls.mono CP.out ?_
  rintro e y7 ⟨r, rfl, hr, b7⟩
  have B7 : Hid (Below y6.heap.size y6 y7) := bstepB D7.out b7
  have hrt : r = true ↔ ¬ TelM P G (a : Int) (b : Int) := by rw [hr]; simp
  clear CP hr b7 HV2 HH1 C7 D7
  rcases HTT.out with ⟨ht0, htl⟩ | ⟨htl, hok⟩
  · obtain rfl : r = true := hrt.2 htl
    obtain rfl : tn = 0 := by rw [← HTN.out, ht0]; rfl
    have HF : Hid (Below w.heap.size w y7) := bstepB B2.out (bstepB B5.out (bstepB B6.out B7.out))
    clear HTT hrt ht0 htl
    go_wp2
    go_ret
    exact ⟨rfl, HF.out⟩
  obtain rfl : r = false := by
    cases r with
    | false => rfl
    | true => exact absurd htl (hrt.1 rfl)
  obtain ⟨A, hA, hOp, hlast, hag, hbg⟩ := hok
  have hT0 := (List.getElem?_eq_some_iff.1 hOp.first).1
  rw [HTN.out] at hT0
  have HAB : Hid (AbvP P G A) := hA
  have HOP : Hid (OpF P G A (a : Int) T) := hOp
  have htn30 : tn ≤ 30 := by have h8 := hOp.len; have h9 := HP30.out; rw [HTN.out] at h8; omega
  have htz : ((tn : Int) == 0) = false := beq_eq_false_iff_ne.2 (by omega)
  obtain ⟨gt, -, rfl⟩ : ∃ g, True ∧ tO = some ⟨g, 0, none⟩ := by
    obtain ⟨ao, cap, e, h1, -⟩ := (HT6.out y6 (Below.refl _ _)).sl
    simp only [Value.slice.injEq] at e
    obtain ⟨g, -, e2⟩ := h1 (by rw [HTN.out]; exact hT0)
    exact ⟨g, trivial, by rw [e.1, e2]⟩
  have HX : Hid (∀ (W : World) (i : Nat) (x : Int), Below y6.heap.size y6 W → T[i]? = some x → W.cell? ⟨gt, i, none⟩ = some (.int .i64 x)) := fun W i x hW hx => ((HT6.out W hW).cell hx).1
  have ht0 : y7.cell? ⟨gt, 0, none⟩ = some (.int .i64 ((a : Nat) : Int)) := HX.out y7 0 _ B7.out hOp.first
  have htl0 : y7.cell? ⟨gt, tn - 1, none⟩ = some (.int .i64 ((b : Nat) : Int)) := HX.out y7 _ _ B7.out (by rw [← HTN.out]; exact hlast)
  obtain ⟨tl, htlE⟩ : ∃ m, tn - 1 = m := ⟨_, rfl⟩
  rw [htlE] at htl0
  have htw : IntKind.i64.wrap ((tn : Int) - 1) = (tl : Int) := by rw [IntKind.wrap_i64]; omega
  have htl1 : (tl : Int) < (tn : Int) := by omega
  have ht1 : (0 : Int) < (tn : Int) := by omega
  have CH1 : Hid _ := has16 (.slice qo qn qc) G (a : Int) y7 (HQ5.out y7 (bstepB B6.out B7.out))
  have CH2 : Hid _ := has16 (.slice qo qn qc) G (b : Int) y7 (HQ5.out y7 (bstepB B6.out B7.out))
  rw [decide_eq_false hag] at CH1
  rw [decide_eq_false hbg] at CH2
  clear HTT hrt htl hA hOp hlast hag hbg htlE
  go_wp2_with fail
  refine Calls.mono CH1.out ?_
  rintro e yy ⟨rfl, hyy⟩
  rw [hyy]
  clear CH1 hyy yy
  go_wp2_with fail
  refine Calls.mono CH2.out ?_
  rintro e yy ⟨rfl, hyy⟩
  rw [hyy]
  clear CH2 hyy yy ht0 htl0 htw htl1
  have HB8 : Hid (Below y7.heap.size y7 y7) := Below.refl _ _
  go_wp2
  go_loopg [19] tn (fun g1 v19 wr => ∃ i : Nat, v19 = .int .i64 i ∧ i ≤ tn ∧ tn - i ≤ g1 ∧ Hid (Below y7.heap.size y7 wr))
  case atStart => exact ⟨0, rfl, Nat.zero_le _, by omega, HB8⟩
  case round =>
    clear HB8
    obtain ⟨i, rfl, hin, hg1, HB⟩ := hrel
    by_cases hlt : i < tn
    · have hltz : (i : Int) < (tn : Int) := by omega
      obtain ⟨x, hx⟩ : ∃ x, T[i]? = some x := ⟨_, List.getElem?_eq_getElem (by rw [HTN.out]; exact hlt)⟩
      obtain ⟨k, rfl, hk⟩ := HOP.out.pts i x hx
      rw [HPN.out] at hk
      have hx2 : wr.cell? ⟨gt, i, none⟩ = some (.int .i64 ((k : Nat) : Int)) := HX.out wr i _ (bstepB B7.out HB.out) hx
      have hk0 : ¬ ((k : Int) < 0) := by omega
      have hkg : ¬ (k : Int) ≥ (pn : Int) := by omega
      have hkz : (k : Int) < (pn : Int) := by omega
      have hic : (i : Int) ≤ (tc : Int) := by have := HTC.out; omega
      have hni : (k : Int) ∉ T.take i := HOP.out.nd i _ hx
      have CH : Hid (∀ W, Below wr.heap.size wr W → Calls Tryz.prog 27 #[.slice (some ⟨gt, 0, none⟩) i tc, .int .i64 ((k : Nat) : Int)] W fun e w' => e = .returned (.bool false) ∧ w' = W) := fun W hW => by
        have h5 := has16 (.slice (some ⟨gt, 0, none⟩) i tc) (T.take i) (k : Int) W ((HT6.out W (bstepB (bstepB B7.out HB.out) hW)).rg.cut (by omega))
        rwa [decide_eq_false hni] at h5
      clear hx hni
      go_upto_region 20 with fail
      have KEEP : ∀ u, Below wr.heap.size wr u → L4.AllL u [(3, fun w' => w'.cell? ⟨gt, i, none⟩ = some (.int .i64 ((k : Nat) : Int))), (9, fun w' => w'.cell? ⟨gt, i, none⟩ = some (.int .i64 ((k : Nat) : Int))), (20, fun w' => w'.cell? ⟨gt, i, none⟩ = some (.int .i64 ((k : Nat) : Int)))] := fun u hu => ⟨keepR hu hx2, keepR hu hx2, keepR hu hx2, trivial⟩
      refine L4.region_late [(3, fun w' => w'.cell? ⟨gt, i, none⟩ = some (.int .i64 ((k : Nat) : Int))), (9, fun w' => w'.cell? ⟨gt, i, none⟩ = some (.int .i64 ((k : Nat) : Int))), (20, fun w' => w'.cell? ⟨gt, i, none⟩ = some (.int .i64 ((k : Nat) : Int)))] (by kernel_rfl) ?_
      have B : Below wr.heap.size wr wr.drew := (Below.refl _ _).drew
      obtain ⟨w1, hw1⟩ : ∃ u, u = wr.drew := ⟨_, rfl⟩
      rw [← hw1] at B ⊢
      clear hw1
      have hHeld := KEEP _ B
      refine L4.late_free 0 (v := .slice (some ⟨gt, 0, none⟩) tn tc) rfl (by kernel_rfl) (by kernel_rfl) (by kernel_rfl) (by kernel_rfl) (by kernel_rfl) (by kernel_rfl) (fun _ _ _ h => h) (Or.inl ⟨by rfl, ?_⟩) hHeld ?_
      · (intro u _; go_simp)
      (try simp only [Act.put, List.setIfInBounds_toArray, List.set_cons_zero, List.set_cons_succ])
      refine L4.late_free 1 (v := .int .i64 ((i : Nat) : Int)) rfl (by kernel_rfl) (by kernel_rfl) (by kernel_rfl) (by kernel_rfl) (by kernel_rfl) (by kernel_rfl) (fun _ _ _ h => h) (Or.inl ⟨by rfl, ?_⟩) hHeld ?_
      · (intro u _; go_simp)
      (try simp only [Act.put, List.setIfInBounds_toArray, List.set_cons_zero, List.set_cons_succ])
      refine L4.late_free 2 (v := .pointer (some ⟨gt, i, none⟩)) rfl (by kernel_rfl) (by kernel_rfl) (by kernel_rfl) (by kernel_rfl) (by kernel_rfl) (by kernel_rfl) (fun _ _ _ h => h) (Or.inl ⟨by rfl, ?_⟩) hHeld ?_
      · (intro u _; go_simp)
      (try simp only [Act.put, List.setIfInBounds_toArray, List.set_cons_zero, List.set_cons_succ])
      refine L4.late_take 3 (v := .int .i64 ((k : Nat) : Int)) rfl (by kernel_rfl) (List.Mem.head _) (by kernel_rfl) (by kernel_rfl) (by kernel_rfl) (by kernel_rfl) (fun _ _ _ h => h) (Or.inl ⟨by rfl, ?_⟩) hHeld ?_
      · (intro u hu; (try dsimp only at hu); go_split_ands; go_simp)
      (try simp only [Act.put, List.setIfInBounds_toArray, List.set_cons_zero, List.set_cons_succ])
      refine L4.late_free 4 (v := .bool false) rfl (by kernel_rfl) (by kernel_rfl) (by kernel_rfl) (by kernel_rfl) (by kernel_rfl) (by kernel_rfl) (fun _ _ _ h => h) (Or.inl ⟨by rfl, ?_⟩) hHeld ?_
      · (intro u _; go_simp)
      (try simp only [Act.put, List.setIfInBounds_toArray, List.set_cons_zero, List.set_cons_succ])
      refine L4.late_free 5 (v := .bool false) rfl (by kernel_rfl) (by kernel_rfl) (by kernel_rfl) (by kernel_rfl) (by kernel_rfl) (by kernel_rfl) (fun _ _ _ h => h) (Or.inl ⟨by rfl, ?_⟩) hHeld ?_
      · (intro u _; go_simp)
      (try simp only [Act.put, List.setIfInBounds_toArray, List.set_cons_zero, List.set_cons_succ])
      refine L4.late_free 6 (v := .slice (some ⟨gt, 0, none⟩) tn tc) rfl (by kernel_rfl) (by kernel_rfl) (by kernel_rfl) (by kernel_rfl) (by kernel_rfl) (by kernel_rfl) (fun _ _ _ h => h) (Or.inl ⟨by rfl, ?_⟩) hHeld ?_
      · (intro u _; go_simp)
      (try simp only [Act.put, List.setIfInBounds_toArray, List.set_cons_zero, List.set_cons_succ])
      refine L4.late_free 7 (v := .int .i64 ((i : Nat) : Int)) rfl (by kernel_rfl) (by kernel_rfl) (by kernel_rfl) (by kernel_rfl) (by kernel_rfl) (by kernel_rfl) (fun _ _ _ h => h) (Or.inl ⟨by rfl, ?_⟩) hHeld ?_
      · (intro u _; go_simp)
      (try simp only [Act.put, List.setIfInBounds_toArray, List.set_cons_zero, List.set_cons_succ])
      refine L4.late_free 8 (v := .pointer (some ⟨gt, i, none⟩)) rfl (by kernel_rfl) (by kernel_rfl) (by kernel_rfl) (by kernel_rfl) (by kernel_rfl) (by kernel_rfl) (fun _ _ _ h => h) (Or.inl ⟨by rfl, ?_⟩) hHeld ?_
      · (intro u _; go_simp)
      (try simp only [Act.put, List.setIfInBounds_toArray, List.set_cons_zero, List.set_cons_succ])
      refine L4.late_take 9 (v := .int .i64 ((k : Nat) : Int)) rfl (by kernel_rfl) (List.Mem.tail _ (List.Mem.head _)) (by kernel_rfl) (by kernel_rfl) (by kernel_rfl) (by kernel_rfl) (fun _ _ _ h => h) (Or.inl ⟨by rfl, ?_⟩) hHeld ?_
      · (intro u hu; (try dsimp only at hu); go_split_ands; go_simp)
      (try simp only [Act.put, List.setIfInBounds_toArray, List.set_cons_zero, List.set_cons_succ])
      refine L4.late_free 10 (v := .int .i64 ((pn : Nat) : Int)) rfl (by kernel_rfl) (by kernel_rfl) (by kernel_rfl) (by kernel_rfl) (by kernel_rfl) (by kernel_rfl) (fun _ _ _ h => h) (Or.inl ⟨by rfl, ?_⟩) hHeld ?_
      · (intro u _; go_simp)
      (try simp only [Act.put, List.setIfInBounds_toArray, List.set_cons_zero, List.set_cons_succ])
      refine L4.late_free 11 (v := .bool false) rfl (by kernel_rfl) (by kernel_rfl) (by kernel_rfl) (by kernel_rfl) (by kernel_rfl) (by kernel_rfl) (fun _ _ _ h => h) (Or.inl ⟨by rfl, ?_⟩) hHeld ?_
      · (intro u _; go_simp)
      (try simp only [Act.put, List.setIfInBounds_toArray, List.set_cons_zero, List.set_cons_succ])
      refine L4.late_free 12 (v := .bool false) rfl (by kernel_rfl) (by kernel_rfl) (by kernel_rfl) (by kernel_rfl) (by kernel_rfl) (by kernel_rfl) (fun _ _ _ h => h) (Or.inl ⟨by rfl, ?_⟩) hHeld ?_
      · (intro u _; go_simp)
      (try simp only [Act.put, List.setIfInBounds_toArray, List.set_cons_zero, List.set_cons_succ])
      refine L4.late_free 13 (v := .bool false) rfl (by kernel_rfl) (by kernel_rfl) (by kernel_rfl) (by kernel_rfl) (by kernel_rfl) (by kernel_rfl) (fun _ _ _ h => h) (Or.inl ⟨by rfl, ?_⟩) hHeld ?_
      · (intro u _; go_simp)
      (try simp only [Act.put, List.setIfInBounds_toArray, List.set_cons_zero, List.set_cons_succ])
      refine L4.late_free 14 (v := .slice (some ⟨gt, 0, none⟩) tn tc) rfl (by kernel_rfl) (by kernel_rfl) (by kernel_rfl) (by kernel_rfl) (by kernel_rfl) (by kernel_rfl) (fun _ _ _ h => h) (Or.inl ⟨by rfl, ?_⟩) hHeld ?_
      · (intro u _; go_simp)
      (try simp only [Act.put, List.setIfInBounds_toArray, List.set_cons_zero, List.set_cons_succ])
      refine L4.late_free 15 (v := .int .i64 ((i : Nat) : Int)) rfl (by kernel_rfl) (by kernel_rfl) (by kernel_rfl) (by kernel_rfl) (by kernel_rfl) (by kernel_rfl) (fun _ _ _ h => h) (Or.inl ⟨by rfl, ?_⟩) hHeld ?_
      · (intro u _; go_simp)
      (try simp only [Act.put, List.setIfInBounds_toArray, List.set_cons_zero, List.set_cons_succ])
      refine L4.late_free 16 (v := .slice (some ⟨gt, 0, none⟩) i tc) rfl (by kernel_rfl) (by kernel_rfl) (by kernel_rfl) (by kernel_rfl) (by kernel_rfl) (by kernel_rfl) (fun _ _ _ h => h) (Or.inl ⟨by rfl, ?_⟩) hHeld ?_
      · (intro u _; go_simp)
      (try simp only [Act.put, List.setIfInBounds_toArray, List.set_cons_zero, List.set_cons_succ])
      refine L4.late_free 17 (v := .slice (some ⟨gt, 0, none⟩) tn tc) rfl (by kernel_rfl) (by kernel_rfl) (by kernel_rfl) (by kernel_rfl) (by kernel_rfl) (by kernel_rfl) (fun _ _ _ h => h) (Or.inl ⟨by rfl, ?_⟩) hHeld ?_
      · (intro u _; go_simp)
      (try simp only [Act.put, List.setIfInBounds_toArray, List.set_cons_zero, List.set_cons_succ])
      refine L4.late_free 18 (v := .int .i64 ((i : Nat) : Int)) rfl (by kernel_rfl) (by kernel_rfl) (by kernel_rfl) (by kernel_rfl) (by kernel_rfl) (by kernel_rfl) (fun _ _ _ h => h) (Or.inl ⟨by rfl, ?_⟩) hHeld ?_
      · (intro u _; go_simp)
      (try simp only [Act.put, List.setIfInBounds_toArray, List.set_cons_zero, List.set_cons_succ])
      refine L4.late_free 19 (v := .pointer (some ⟨gt, i, none⟩)) rfl (by kernel_rfl) (by kernel_rfl) (by kernel_rfl) (by kernel_rfl) (by kernel_rfl) (by kernel_rfl) (fun _ _ _ h => h) (Or.inl ⟨by rfl, ?_⟩) hHeld ?_
      · (intro u _; go_simp)
      (try simp only [Act.put, List.setIfInBounds_toArray, List.set_cons_zero, List.set_cons_succ])
      refine L4.late_take 20 (v := .int .i64 ((k : Nat) : Int)) rfl (by kernel_rfl) (List.Mem.tail _ (List.Mem.tail _ (List.Mem.head _))) (by kernel_rfl) (by kernel_rfl) (by kernel_rfl) (by kernel_rfl) (fun _ _ _ h => h) (Or.inl ⟨by rfl, ?_⟩) hHeld ?_
      · (intro u hu; (try dsimp only at hu); go_split_ands; go_simp)
      (try simp only [Act.put, List.setIfInBounds_toArray, List.set_cons_zero, List.set_cons_succ])
      refine L4.late_step 21 (by kernel_rfl) rfl (fun K hK => ?_)
      go_simp
      refine (CH.out _ B).mono ?_
      rintro e y2 ⟨rfl, hy2⟩
      have c2 : Below w1.heap.size w1 y2 := by rw [hy2]; exact Below.refl _ _
      clear hy2
      have B := B.trans (c2.mono B.size)
      clear c2 hHeld
      have hHeld := KEEP _ B
      go_wp2_with fail
      refine hK.out _ _ (L4.AllL.kept hHeld) ?_
      clear hK K
      (try simp only [Act.put, List.setIfInBounds_toArray, List.set_cons_zero, List.set_cons_succ])
      refine L4.late_free 22 (v := .bool false) rfl (by kernel_rfl) (by kernel_rfl) (by kernel_rfl) (by kernel_rfl) (by kernel_rfl) (by kernel_rfl) (fun _ _ _ h => h) (Or.inl ⟨by rfl, ?_⟩) hHeld ?_
      · (intro u _; go_simp)
      (try simp only [Act.put, List.setIfInBounds_toArray, List.set_cons_zero, List.set_cons_succ])
      refine L4.late_done (by kernel_rfl) ?_ _
      clear hHeld KEEP
      obtain ⟨wq, rfl⟩ : ∃ W, W = y2 := ⟨_, rfl⟩
      have HBQ : Hid (Below wr.heap.size wr wq) := B
      clear B
      have HB2 : Hid (Below y7.heap.size y7 wq) := bstepB HB.out HBQ.out
      clear hx2 CH HBQ hk0 hkg hkz hic hk
      go_wp2
      go_roundg (tn - (i + 1))
      case measure => omega
      case rel => exact ⟨i + 1, by first | rfl | go_num, by omega, Nat.le_refl _, HB2⟩
    · have hltz : ¬ (i : Int) < (tn : Int) := by omega
      go_wp2
      go_loopg [20] tn (fun g1 v20 wr => ∃ i : Nat, v20 = .int .i64 i ∧ 1 ≤ i ∧ i ≤ tn ∧ tn - i ≤ g1 ∧ Hid (Below y7.heap.size y7 wr))
      case atStart => exact ⟨1, rfl, Nat.le_refl _, by omega, by omega, HB⟩
      case round =>
        clear HB hltz hin hg1
        obtain ⟨i, rfl, hi1, hin, hg1, HB⟩ := hrel
        by_cases hlt : i < tn
        · have hltz : (i : Int) < (tn : Int) := by omega
          obtain ⟨j0, hj0⟩ : ∃ j0, i = j0 + 1 := ⟨i - 1, by omega⟩
          obtain ⟨x, hx⟩ : ∃ x, T[i]? = some x := ⟨_, List.getElem?_eq_getElem (by rw [HTN.out]; exact hlt)⟩
          obtain ⟨x0, hx0'⟩ : ∃ x, T[j0]? = some x := ⟨_, List.getElem?_eq_getElem (by rw [HTN.out]; omega)⟩
          obtain ⟨k, rfl, hk⟩ := HOP.out.pts i x hx
          obtain ⟨k0, rfl, hk0⟩ := HOP.out.pts j0 x0 hx0'
          rw [HPN.out] at hk hk0
          have hadj := HOP.out.adj j0 _ _ hx0' (by rw [← hj0]; exact hx)
          rw [Int.toNat_natCast, Int.toNat_natCast] at hadj
          have hbw := bstepB B7.out HB.out
          have hx2 : wr.cell? ⟨gt, i, none⟩ = some (.int .i64 ((k : Nat) : Int)) := HX.out wr i _ hbw hx
          have hx0 : wr.cell? ⟨gt, j0, none⟩ = some (.int .i64 ((k0 : Nat) : Int)) := HX.out wr j0 _ hbw hx0'
          have hiw : IntKind.i64.wrap ((i : Int) - 1) = (j0 : Int) := by rw [IntKind.wrap_i64]; omega
          have hjl : (j0 : Int) < (tn : Int) := by omega
          have hkz : (k : Int) < (pn : Int) := by omega
          have hk0z : (k0 : Int) < (pn : Int) := by omega
          have hR := HR5.out wr (bstepB B6.out hbw)
          obtain ⟨u, gp, op, hu1, rfl, hr2⟩ := hR.out.at hk
          have hur := hR.inn k u hu1
          obtain ⟨xo, xn, xc, rfl⟩ : ∃ o n c, u = .slice o n c := by obtain ⟨ao, cap, e⟩ := hur.sl; exact ⟨_, _, _, e⟩
          change wr.cell? ⟨gp, op + k, none⟩ = some (.slice xo xn xc) at hr2
          obtain ⟨u0, gp', op', hv1, hpe, hr0⟩ := hR.out.at hk0
          simp only [Option.some.injEq, Addr.mk.injEq] at hpe
          obtain ⟨rfl, rfl, -⟩ := hpe
          have hvr := hR.inn k0 u0 hv1
          obtain ⟨uo, un, uc, rfl⟩ : ∃ o n c, u0 = .slice o n c := by obtain ⟨ao, cap, e⟩ := hvr.sl; exact ⟨_, _, _, e⟩
          change wr.cell? ⟨gp, op + k0, none⟩ = some (.slice uo un uc) at hr0
          have HUR : Hid (∀ W, Below wr.heap.size wr W → RG (Value.int .i64) W (.slice xo xn xc) (P.getD k [])) := fun W hW => hur.below (Nat.le_refl _) hW
          have HVR : Hid (∀ W, Below wr.heap.size wr W → RG (Value.int .i64) W (.slice uo un uc) (P.getD k0 [])) := fun W hW => hvr.below (Nat.le_refl _) hW
          clear hx hx0' hbw hR hu1 hur hv1 hvr hj0
          by_cases hc : (k0 : Int) ∈ P.getD k []
          case' pos =>
            have CH1 : Hid (∀ W, Below wr.heap.size wr W → Calls Tryz.prog 27 #[.slice xo xn xc, .int .i64 ((k0 : Nat) : Int)] W fun e w' => e = .returned (.bool true) ∧ w' = W) := fun W hW => by
              have h5 := has16 (.slice xo xn xc) (P.getD k []) (k0 : Int) W (HUR.out W hW)
              rwa [decide_eq_true hc] at h5
            clear hc hadj
            go_upto_region 25 with fail
            have KEEP : ∀ u, Below wr.heap.size wr u → L4.AllL u [(4, fun w' => w'.cell? ⟨gt, i, none⟩ = some (.int .i64 ((k : Nat) : Int))), (6, fun w' => w'.cell? ⟨gp, op + k, none⟩ = some (.slice xo xn xc)), (11, fun w' => w'.cell? ⟨gt, j0, none⟩ = some (.int .i64 ((k0 : Nat) : Int))), (20, fun w' => True), (22, fun w' => True), (26, fun w' => True)] := fun u hu => ⟨keepR hu hx2, keepR hu hr2, keepR hu hx0, trivial, trivial, trivial, trivial⟩
            refine L4.region_late [(4, fun w' => w'.cell? ⟨gt, i, none⟩ = some (.int .i64 ((k : Nat) : Int))), (6, fun w' => w'.cell? ⟨gp, op + k, none⟩ = some (.slice xo xn xc)), (11, fun w' => w'.cell? ⟨gt, j0, none⟩ = some (.int .i64 ((k0 : Nat) : Int))), (20, fun w' => True), (22, fun w' => True), (26, fun w' => True)] (by kernel_rfl) ?_
            have B : Below wr.heap.size wr wr.drew := (Below.refl _ _).drew
            obtain ⟨w3, hw3⟩ : ∃ u, u = wr.drew := ⟨_, rfl⟩
            rw [← hw3] at B ⊢
            clear hw3
            have hHeld := KEEP _ B
            refine L4.late_free 0 (v := .slice (some ⟨gp, op, none⟩) pn pc) rfl (by kernel_rfl) (by kernel_rfl) (by kernel_rfl) (by kernel_rfl) (by kernel_rfl) (by kernel_rfl) (fun _ _ _ h => h) (Or.inl ⟨by rfl, ?_⟩) hHeld ?_
            · (intro u _; go_simp)
            (try simp only [Act.put, List.setIfInBounds_toArray, List.set_cons_zero, List.set_cons_succ])
            refine L4.late_free 1 (v := .slice (some ⟨gt, 0, none⟩) tn tc) rfl (by kernel_rfl) (by kernel_rfl) (by kernel_rfl) (by kernel_rfl) (by kernel_rfl) (by kernel_rfl) (fun _ _ _ h => h) (Or.inl ⟨by rfl, ?_⟩) hHeld ?_
            · (intro u _; go_simp)
            (try simp only [Act.put, List.setIfInBounds_toArray, List.set_cons_zero, List.set_cons_succ])
            refine L4.late_free 2 (v := .int .i64 ((i : Nat) : Int)) rfl (by kernel_rfl) (by kernel_rfl) (by kernel_rfl) (by kernel_rfl) (by kernel_rfl) (by kernel_rfl) (fun _ _ _ h => h) (Or.inl ⟨by rfl, ?_⟩) hHeld ?_
            · (intro u _; go_simp)
            (try simp only [Act.put, List.setIfInBounds_toArray, List.set_cons_zero, List.set_cons_succ])
            refine L4.late_free 3 (v := .pointer (some ⟨gt, i, none⟩)) rfl (by kernel_rfl) (by kernel_rfl) (by kernel_rfl) (by kernel_rfl) (by kernel_rfl) (by kernel_rfl) (fun _ _ _ h => h) (Or.inl ⟨by rfl, ?_⟩) hHeld ?_
            · (intro u _; go_simp)
            (try simp only [Act.put, List.setIfInBounds_toArray, List.set_cons_zero, List.set_cons_succ])
            refine L4.late_take 4 (v := .int .i64 ((k : Nat) : Int)) rfl (by kernel_rfl) (List.Mem.head _) (by kernel_rfl) (by kernel_rfl) (by kernel_rfl) (by kernel_rfl) (fun _ _ _ h => h) (Or.inl ⟨by rfl, ?_⟩) hHeld ?_
            · (intro u hu; (try dsimp only at hu); go_split_ands; go_simp)
            (try simp only [Act.put, List.setIfInBounds_toArray, List.set_cons_zero, List.set_cons_succ])
            refine L4.late_free 5 (v := .pointer (some ⟨gp, op + k, none⟩)) rfl (by kernel_rfl) (by kernel_rfl) (by kernel_rfl) (by kernel_rfl) (by kernel_rfl) (by kernel_rfl) (fun _ _ _ h => h) (Or.inl ⟨by rfl, ?_⟩) hHeld ?_
            · (intro u _; go_simp)
            (try simp only [Act.put, List.setIfInBounds_toArray, List.set_cons_zero, List.set_cons_succ])
            refine L4.late_take 6 (v := .slice xo xn xc) rfl (by kernel_rfl) (List.Mem.tail _ (List.Mem.head _)) (by kernel_rfl) (by kernel_rfl) (by kernel_rfl) (by kernel_rfl) (fun _ _ _ h => h) (Or.inl ⟨by rfl, ?_⟩) hHeld ?_
            · (intro u hu; (try dsimp only at hu); go_split_ands; go_simp)
            (try simp only [Act.put, List.setIfInBounds_toArray, List.set_cons_zero, List.set_cons_succ])
            refine L4.late_free 7 (v := .slice (some ⟨gt, 0, none⟩) tn tc) rfl (by kernel_rfl) (by kernel_rfl) (by kernel_rfl) (by kernel_rfl) (by kernel_rfl) (by kernel_rfl) (fun _ _ _ h => h) (Or.inl ⟨by rfl, ?_⟩) hHeld ?_
            · (intro u _; go_simp)
            (try simp only [Act.put, List.setIfInBounds_toArray, List.set_cons_zero, List.set_cons_succ])
            refine L4.late_free 8 (v := .int .i64 ((i : Nat) : Int)) rfl (by kernel_rfl) (by kernel_rfl) (by kernel_rfl) (by kernel_rfl) (by kernel_rfl) (by kernel_rfl) (fun _ _ _ h => h) (Or.inl ⟨by rfl, ?_⟩) hHeld ?_
            · (intro u _; go_simp)
            (try simp only [Act.put, List.setIfInBounds_toArray, List.set_cons_zero, List.set_cons_succ])
            refine L4.late_free 9 (v := .int .i64 ((j0 : Nat) : Int)) rfl (by kernel_rfl) (by kernel_rfl) (by kernel_rfl) (by kernel_rfl) (by kernel_rfl) (by kernel_rfl) (fun _ _ _ h => h) (Or.inl ⟨by rfl, ?_⟩) hHeld ?_
            · (intro u _; go_simp)
            (try simp only [Act.put, List.setIfInBounds_toArray, List.set_cons_zero, List.set_cons_succ])
            refine L4.late_free 10 (v := .pointer (some ⟨gt, j0, none⟩)) rfl (by kernel_rfl) (by kernel_rfl) (by kernel_rfl) (by kernel_rfl) (by kernel_rfl) (by kernel_rfl) (fun _ _ _ h => h) (Or.inl ⟨by rfl, ?_⟩) hHeld ?_
            · (intro u _; go_simp)
            (try simp only [Act.put, List.setIfInBounds_toArray, List.set_cons_zero, List.set_cons_succ])
            refine L4.late_take 11 (v := .int .i64 ((k0 : Nat) : Int)) rfl (by kernel_rfl) (List.Mem.tail _ (List.Mem.tail _ (List.Mem.head _))) (by kernel_rfl) (by kernel_rfl) (by kernel_rfl) (by kernel_rfl) (fun _ _ _ h => h) (Or.inl ⟨by rfl, ?_⟩) hHeld ?_
            · (intro u hu; (try dsimp only at hu); go_split_ands; go_simp)
            (try simp only [Act.put, List.setIfInBounds_toArray, List.set_cons_zero, List.set_cons_succ])
            refine L4.late_step 12 (by kernel_rfl) rfl (fun K hK => ?_)
            go_simp
            refine (CH1.out _ B).mono ?_
            rintro e y4 ⟨rfl, hy4⟩
            have c4 : Below w3.heap.size w3 y4 := by rw [hy4]; exact Below.refl _ _
            clear hy4
            have B := B.trans (c4.mono B.size)
            clear c4 hHeld
            have hHeld := KEEP _ B
            go_wp2_with fail
            refine hK.out _ _ (L4.AllL.kept hHeld) ?_
            clear hK K
            (try simp only [Act.put, List.setIfInBounds_toArray, List.set_cons_zero, List.set_cons_succ])
            refine L4.late_free 13 (v := .bool false) rfl (by kernel_rfl) (by kernel_rfl) (by kernel_rfl) (by kernel_rfl) (by kernel_rfl) (by kernel_rfl) (fun _ _ _ h => h) (Or.inl ⟨by rfl, ?_⟩) hHeld ?_
            · (intro u _; go_simp)
            (try simp only [Act.put, List.setIfInBounds_toArray, List.set_cons_zero, List.set_cons_succ])
            refine L4.late_free 14 (v := .bool false) rfl (by kernel_rfl) (by kernel_rfl) (by kernel_rfl) (by kernel_rfl) (by kernel_rfl) (by kernel_rfl) (fun _ _ _ h => h) (Or.inl ⟨by rfl, ?_⟩) hHeld ?_
            · (intro u _; go_simp)
            (try simp only [Act.put, List.setIfInBounds_toArray, List.set_cons_zero, List.set_cons_succ])
            refine L4.late_free 15 (v := undef) rfl (by kernel_rfl) (by kernel_rfl) (by kernel_rfl) (by kernel_rfl) (by kernel_rfl) (by kernel_rfl) (fun _ _ _ h => h) (Or.inr ⟨by rfl, rfl⟩) hHeld ?_
            (try simp only [Act.put, List.setIfInBounds_toArray, List.set_cons_zero, List.set_cons_succ])
            refine L4.late_free 16 (v := undef) rfl (by kernel_rfl) (by kernel_rfl) (by kernel_rfl) (by kernel_rfl) (by kernel_rfl) (by kernel_rfl) (fun _ _ _ h => h) (Or.inr ⟨by rfl, rfl⟩) hHeld ?_
            (try simp only [Act.put, List.setIfInBounds_toArray, List.set_cons_zero, List.set_cons_succ])
            refine L4.late_free 17 (v := undef) rfl (by kernel_rfl) (by kernel_rfl) (by kernel_rfl) (by kernel_rfl) (by kernel_rfl) (by kernel_rfl) (fun _ _ _ h => h) (Or.inr ⟨by rfl, rfl⟩) hHeld ?_
            (try simp only [Act.put, List.setIfInBounds_toArray, List.set_cons_zero, List.set_cons_succ])
            refine L4.late_free 18 (v := undef) rfl (by kernel_rfl) (by kernel_rfl) (by kernel_rfl) (by kernel_rfl) (by kernel_rfl) (by kernel_rfl) (fun _ _ _ h => h) (Or.inr ⟨by rfl, rfl⟩) hHeld ?_
            (try simp only [Act.put, List.setIfInBounds_toArray, List.set_cons_zero, List.set_cons_succ])
            refine L4.late_free 19 (v := undef) rfl (by kernel_rfl) (by kernel_rfl) (by kernel_rfl) (by kernel_rfl) (by kernel_rfl) (by kernel_rfl) (fun _ _ _ h => h) (Or.inr ⟨by rfl, rfl⟩) hHeld ?_
            (try simp only [Act.put, List.setIfInBounds_toArray, List.set_cons_zero, List.set_cons_succ])
            refine L4.late_take 20 (v := undef) rfl (by kernel_rfl) (List.Mem.tail _ (List.Mem.tail _ (List.Mem.tail _ (List.Mem.head _)))) (by kernel_rfl) (by kernel_rfl) (by kernel_rfl) (by kernel_rfl) (fun _ _ _ h => h) (Or.inr ⟨by rfl, rfl⟩) hHeld ?_
            (try simp only [Act.put, List.setIfInBounds_toArray, List.set_cons_zero, List.set_cons_succ])
            refine L4.late_free 21 (v := undef) rfl (by kernel_rfl) (by kernel_rfl) (by kernel_rfl) (by kernel_rfl) (by kernel_rfl) (by kernel_rfl) (fun _ _ _ h => h) (Or.inr ⟨by rfl, rfl⟩) hHeld ?_
            (try simp only [Act.put, List.setIfInBounds_toArray, List.set_cons_zero, List.set_cons_succ])
            refine L4.late_take 22 (v := undef) rfl (by kernel_rfl) (List.Mem.tail _ (List.Mem.tail _ (List.Mem.tail _ (List.Mem.tail _ (List.Mem.head _))))) (by kernel_rfl) (by kernel_rfl) (by kernel_rfl) (by kernel_rfl) (fun _ _ _ h => h) (Or.inr ⟨by rfl, rfl⟩) hHeld ?_
            (try simp only [Act.put, List.setIfInBounds_toArray, List.set_cons_zero, List.set_cons_succ])
            refine L4.late_free 23 (v := undef) rfl (by kernel_rfl) (by kernel_rfl) (by kernel_rfl) (by kernel_rfl) (by kernel_rfl) (by kernel_rfl) (fun _ _ _ h => h) (Or.inr ⟨by rfl, rfl⟩) hHeld ?_
            (try simp only [Act.put, List.setIfInBounds_toArray, List.set_cons_zero, List.set_cons_succ])
            refine L4.late_free 24 (v := undef) rfl (by kernel_rfl) (by kernel_rfl) (by kernel_rfl) (by kernel_rfl) (by kernel_rfl) (by kernel_rfl) (fun _ _ _ h => h) (Or.inr ⟨by rfl, rfl⟩) hHeld ?_
            (try simp only [Act.put, List.setIfInBounds_toArray, List.set_cons_zero, List.set_cons_succ])
            refine L4.late_free 25 (v := undef) rfl (by kernel_rfl) (by kernel_rfl) (by kernel_rfl) (by kernel_rfl) (by kernel_rfl) (by kernel_rfl) (fun _ _ _ h => h) (Or.inr ⟨by rfl, rfl⟩) hHeld ?_
            (try simp only [Act.put, List.setIfInBounds_toArray, List.set_cons_zero, List.set_cons_succ])
            refine L4.late_take 26 (v := undef) rfl (by kernel_rfl) (List.Mem.tail _ (List.Mem.tail _ (List.Mem.tail _ (List.Mem.tail _ (List.Mem.tail _ (List.Mem.head _)))))) (by kernel_rfl) (by kernel_rfl) (by kernel_rfl) (by kernel_rfl) (fun _ _ _ h => h) (Or.inr ⟨by rfl, rfl⟩) hHeld ?_
            (try simp only [Act.put, List.setIfInBounds_toArray, List.set_cons_zero, List.set_cons_succ])
            refine L4.late_step 27 (by kernel_rfl) rfl (fun K hK => ?_)
            go_simp
            refine hK.out _ _ (L4.AllL.kept hHeld) ?_
            clear hK K
            (try simp only [Act.put, List.setIfInBounds_toArray, List.set_cons_zero, List.set_cons_succ])
            refine L4.late_free 28 (v := undef) rfl (by kernel_rfl) (by kernel_rfl) (by kernel_rfl) (by kernel_rfl) (by kernel_rfl) (by kernel_rfl) (fun _ _ _ h => h) (Or.inr ⟨by rfl, rfl⟩) hHeld ?_
            (try simp only [Act.put, List.setIfInBounds_toArray, List.set_cons_zero, List.set_cons_succ])
            refine L4.late_free 29 (v := .bool false) rfl (by kernel_rfl) (by kernel_rfl) (by kernel_rfl) (by kernel_rfl) (by kernel_rfl) (by kernel_rfl) (fun _ _ _ h => h) (Or.inl ⟨by rfl, ?_⟩) hHeld ?_
            · (intro u _; go_simp)
            (try simp only [Act.put, List.setIfInBounds_toArray, List.set_cons_zero, List.set_cons_succ])
            refine L4.late_done (by kernel_rfl) ?_ _
            clear hHeld KEEP
            obtain ⟨wq, rfl⟩ : ∃ W, W = y4 := ⟨_, rfl⟩
            have HBQ : Hid (Below wr.heap.size wr wq) := B
            clear B
            clear CH1
          case' neg =>
            have hc2 : (k : Int) ∈ P.getD k0 [] := hadj.resolve_right hc
            have CH1 : Hid (∀ W, Below wr.heap.size wr W → Calls Tryz.prog 27 #[.slice xo xn xc, .int .i64 ((k0 : Nat) : Int)] W fun e w' => e = .returned (.bool false) ∧ w' = W) := fun W hW => by
              have h5 := has16 (.slice xo xn xc) (P.getD k []) (k0 : Int) W (HUR.out W hW)
              rwa [decide_eq_false hc] at h5
            have CH2 : Hid (∀ W, Below wr.heap.size wr W → Calls Tryz.prog 27 #[.slice uo un uc, .int .i64 ((k : Nat) : Int)] W fun e w' => e = .returned (.bool true) ∧ w' = W) := fun W hW => by
              have h5 := has16 (.slice uo un uc) (P.getD k0 []) (k : Int) W (HVR.out W hW)
              rwa [decide_eq_true hc2] at h5
            clear hc hc2 hadj
            go_upto_region 25 with fail
            have KEEP : ∀ u, Below wr.heap.size wr u → L4.AllL u [(4, fun w' => w'.cell? ⟨gt, i, none⟩ = some (.int .i64 ((k : Nat) : Int))), (6, fun w' => w'.cell? ⟨gp, op + k, none⟩ = some (.slice xo xn xc)), (11, fun w' => w'.cell? ⟨gt, j0, none⟩ = some (.int .i64 ((k0 : Nat) : Int))), (20, fun w' => w'.cell? ⟨gt, j0, none⟩ = some (.int .i64 ((k0 : Nat) : Int))), (22, fun w' => w'.cell? ⟨gp, op + k0, none⟩ = some (.slice uo un uc)), (26, fun w' => w'.cell? ⟨gt, i, none⟩ = some (.int .i64 ((k : Nat) : Int)))] := fun u hu => ⟨keepR hu hx2, keepR hu hr2, keepR hu hx0, keepR hu hx0, keepR hu hr0, keepR hu hx2, trivial⟩
            refine L4.region_late [(4, fun w' => w'.cell? ⟨gt, i, none⟩ = some (.int .i64 ((k : Nat) : Int))), (6, fun w' => w'.cell? ⟨gp, op + k, none⟩ = some (.slice xo xn xc)), (11, fun w' => w'.cell? ⟨gt, j0, none⟩ = some (.int .i64 ((k0 : Nat) : Int))), (20, fun w' => w'.cell? ⟨gt, j0, none⟩ = some (.int .i64 ((k0 : Nat) : Int))), (22, fun w' => w'.cell? ⟨gp, op + k0, none⟩ = some (.slice uo un uc)), (26, fun w' => w'.cell? ⟨gt, i, none⟩ = some (.int .i64 ((k : Nat) : Int)))] (by kernel_rfl) ?_
            have B : Below wr.heap.size wr wr.drew := (Below.refl _ _).drew
            obtain ⟨w5, hw5⟩ : ∃ u, u = wr.drew := ⟨_, rfl⟩
            rw [← hw5] at B ⊢
            clear hw5
            have hHeld := KEEP _ B
            refine L4.late_free 0 (v := .slice (some ⟨gp, op, none⟩) pn pc) rfl (by kernel_rfl) (by kernel_rfl) (by kernel_rfl) (by kernel_rfl) (by kernel_rfl) (by kernel_rfl) (fun _ _ _ h => h) (Or.inl ⟨by rfl, ?_⟩) hHeld ?_
            · (intro u _; go_simp)
            (try simp only [Act.put, List.setIfInBounds_toArray, List.set_cons_zero, List.set_cons_succ])
            refine L4.late_free 1 (v := .slice (some ⟨gt, 0, none⟩) tn tc) rfl (by kernel_rfl) (by kernel_rfl) (by kernel_rfl) (by kernel_rfl) (by kernel_rfl) (by kernel_rfl) (fun _ _ _ h => h) (Or.inl ⟨by rfl, ?_⟩) hHeld ?_
            · (intro u _; go_simp)
            (try simp only [Act.put, List.setIfInBounds_toArray, List.set_cons_zero, List.set_cons_succ])
            refine L4.late_free 2 (v := .int .i64 ((i : Nat) : Int)) rfl (by kernel_rfl) (by kernel_rfl) (by kernel_rfl) (by kernel_rfl) (by kernel_rfl) (by kernel_rfl) (fun _ _ _ h => h) (Or.inl ⟨by rfl, ?_⟩) hHeld ?_
            · (intro u _; go_simp)
            (try simp only [Act.put, List.setIfInBounds_toArray, List.set_cons_zero, List.set_cons_succ])
            refine L4.late_free 3 (v := .pointer (some ⟨gt, i, none⟩)) rfl (by kernel_rfl) (by kernel_rfl) (by kernel_rfl) (by kernel_rfl) (by kernel_rfl) (by kernel_rfl) (fun _ _ _ h => h) (Or.inl ⟨by rfl, ?_⟩) hHeld ?_
            · (intro u _; go_simp)
            (try simp only [Act.put, List.setIfInBounds_toArray, List.set_cons_zero, List.set_cons_succ])
            refine L4.late_take 4 (v := .int .i64 ((k : Nat) : Int)) rfl (by kernel_rfl) (List.Mem.head _) (by kernel_rfl) (by kernel_rfl) (by kernel_rfl) (by kernel_rfl) (fun _ _ _ h => h) (Or.inl ⟨by rfl, ?_⟩) hHeld ?_
            · (intro u hu; (try dsimp only at hu); go_split_ands; go_simp)
            (try simp only [Act.put, List.setIfInBounds_toArray, List.set_cons_zero, List.set_cons_succ])
            refine L4.late_free 5 (v := .pointer (some ⟨gp, op + k, none⟩)) rfl (by kernel_rfl) (by kernel_rfl) (by kernel_rfl) (by kernel_rfl) (by kernel_rfl) (by kernel_rfl) (fun _ _ _ h => h) (Or.inl ⟨by rfl, ?_⟩) hHeld ?_
            · (intro u _; go_simp)
            (try simp only [Act.put, List.setIfInBounds_toArray, List.set_cons_zero, List.set_cons_succ])
            refine L4.late_take 6 (v := .slice xo xn xc) rfl (by kernel_rfl) (List.Mem.tail _ (List.Mem.head _)) (by kernel_rfl) (by kernel_rfl) (by kernel_rfl) (by kernel_rfl) (fun _ _ _ h => h) (Or.inl ⟨by rfl, ?_⟩) hHeld ?_
            · (intro u hu; (try dsimp only at hu); go_split_ands; go_simp)
            (try simp only [Act.put, List.setIfInBounds_toArray, List.set_cons_zero, List.set_cons_succ])
            refine L4.late_free 7 (v := .slice (some ⟨gt, 0, none⟩) tn tc) rfl (by kernel_rfl) (by kernel_rfl) (by kernel_rfl) (by kernel_rfl) (by kernel_rfl) (by kernel_rfl) (fun _ _ _ h => h) (Or.inl ⟨by rfl, ?_⟩) hHeld ?_
            · (intro u _; go_simp)
            (try simp only [Act.put, List.setIfInBounds_toArray, List.set_cons_zero, List.set_cons_succ])
            refine L4.late_free 8 (v := .int .i64 ((i : Nat) : Int)) rfl (by kernel_rfl) (by kernel_rfl) (by kernel_rfl) (by kernel_rfl) (by kernel_rfl) (by kernel_rfl) (fun _ _ _ h => h) (Or.inl ⟨by rfl, ?_⟩) hHeld ?_
            · (intro u _; go_simp)
            (try simp only [Act.put, List.setIfInBounds_toArray, List.set_cons_zero, List.set_cons_succ])
            refine L4.late_free 9 (v := .int .i64 ((j0 : Nat) : Int)) rfl (by kernel_rfl) (by kernel_rfl) (by kernel_rfl) (by kernel_rfl) (by kernel_rfl) (by kernel_rfl) (fun _ _ _ h => h) (Or.inl ⟨by rfl, ?_⟩) hHeld ?_
            · (intro u _; go_simp)
            (try simp only [Act.put, List.setIfInBounds_toArray, List.set_cons_zero, List.set_cons_succ])
            refine L4.late_free 10 (v := .pointer (some ⟨gt, j0, none⟩)) rfl (by kernel_rfl) (by kernel_rfl) (by kernel_rfl) (by kernel_rfl) (by kernel_rfl) (by kernel_rfl) (fun _ _ _ h => h) (Or.inl ⟨by rfl, ?_⟩) hHeld ?_
            · (intro u _; go_simp)
            (try simp only [Act.put, List.setIfInBounds_toArray, List.set_cons_zero, List.set_cons_succ])
            refine L4.late_take 11 (v := .int .i64 ((k0 : Nat) : Int)) rfl (by kernel_rfl) (List.Mem.tail _ (List.Mem.tail _ (List.Mem.head _))) (by kernel_rfl) (by kernel_rfl) (by kernel_rfl) (by kernel_rfl) (fun _ _ _ h => h) (Or.inl ⟨by rfl, ?_⟩) hHeld ?_
            · (intro u hu; (try dsimp only at hu); go_split_ands; go_simp)
            (try simp only [Act.put, List.setIfInBounds_toArray, List.set_cons_zero, List.set_cons_succ])
            refine L4.late_step 12 (by kernel_rfl) rfl (fun K hK => ?_)
            go_simp
            refine (CH1.out _ B).mono ?_
            rintro e y6 ⟨rfl, hy6⟩
            have c6 : Below w5.heap.size w5 y6 := by rw [hy6]; exact Below.refl _ _
            clear hy6
            have B := B.trans (c6.mono B.size)
            clear c6 hHeld
            have hHeld := KEEP _ B
            go_wp2_with fail
            refine hK.out _ _ (L4.AllL.kept hHeld) ?_
            clear hK K
            (try simp only [Act.put, List.setIfInBounds_toArray, List.set_cons_zero, List.set_cons_succ])
            refine L4.late_free 13 (v := .bool true) rfl (by kernel_rfl) (by kernel_rfl) (by kernel_rfl) (by kernel_rfl) (by kernel_rfl) (by kernel_rfl) (fun _ _ _ h => h) (Or.inl ⟨by rfl, ?_⟩) hHeld ?_
            · (intro u _; go_simp)
            (try simp only [Act.put, List.setIfInBounds_toArray, List.set_cons_zero, List.set_cons_succ])
            refine L4.late_free 14 (v := .bool true) rfl (by kernel_rfl) (by kernel_rfl) (by kernel_rfl) (by kernel_rfl) (by kernel_rfl) (by kernel_rfl) (fun _ _ _ h => h) (Or.inl ⟨by rfl, ?_⟩) hHeld ?_
            · (intro u _; go_simp)
            (try simp only [Act.put, List.setIfInBounds_toArray, List.set_cons_zero, List.set_cons_succ])
            refine L4.late_free 15 (v := .slice (some ⟨gp, op, none⟩) pn pc) rfl (by kernel_rfl) (by kernel_rfl) (by kernel_rfl) (by kernel_rfl) (by kernel_rfl) (by kernel_rfl) (fun _ _ _ h => h) (Or.inl ⟨by rfl, ?_⟩) hHeld ?_
            · (intro u _; go_simp)
            (try simp only [Act.put, List.setIfInBounds_toArray, List.set_cons_zero, List.set_cons_succ])
            refine L4.late_free 16 (v := .slice (some ⟨gt, 0, none⟩) tn tc) rfl (by kernel_rfl) (by kernel_rfl) (by kernel_rfl) (by kernel_rfl) (by kernel_rfl) (by kernel_rfl) (fun _ _ _ h => h) (Or.inl ⟨by rfl, ?_⟩) hHeld ?_
            · (intro u _; go_simp)
            (try simp only [Act.put, List.setIfInBounds_toArray, List.set_cons_zero, List.set_cons_succ])
            refine L4.late_free 17 (v := .int .i64 ((i : Nat) : Int)) rfl (by kernel_rfl) (by kernel_rfl) (by kernel_rfl) (by kernel_rfl) (by kernel_rfl) (by kernel_rfl) (fun _ _ _ h => h) (Or.inl ⟨by rfl, ?_⟩) hHeld ?_
            · (intro u _; go_simp)
            (try simp only [Act.put, List.setIfInBounds_toArray, List.set_cons_zero, List.set_cons_succ])
            refine L4.late_free 18 (v := .int .i64 ((j0 : Nat) : Int)) rfl (by kernel_rfl) (by kernel_rfl) (by kernel_rfl) (by kernel_rfl) (by kernel_rfl) (by kernel_rfl) (fun _ _ _ h => h) (Or.inl ⟨by rfl, ?_⟩) hHeld ?_
            · (intro u _; go_simp)
            (try simp only [Act.put, List.setIfInBounds_toArray, List.set_cons_zero, List.set_cons_succ])
            refine L4.late_free 19 (v := .pointer (some ⟨gt, j0, none⟩)) rfl (by kernel_rfl) (by kernel_rfl) (by kernel_rfl) (by kernel_rfl) (by kernel_rfl) (by kernel_rfl) (fun _ _ _ h => h) (Or.inl ⟨by rfl, ?_⟩) hHeld ?_
            · (intro u _; go_simp)
            (try simp only [Act.put, List.setIfInBounds_toArray, List.set_cons_zero, List.set_cons_succ])
            refine L4.late_take 20 (v := .int .i64 ((k0 : Nat) : Int)) rfl (by kernel_rfl) (List.Mem.tail _ (List.Mem.tail _ (List.Mem.tail _ (List.Mem.head _)))) (by kernel_rfl) (by kernel_rfl) (by kernel_rfl) (by kernel_rfl) (fun _ _ _ h => h) (Or.inl ⟨by rfl, ?_⟩) hHeld ?_
            · (intro u hu; (try dsimp only at hu); go_split_ands; go_simp)
            (try simp only [Act.put, List.setIfInBounds_toArray, List.set_cons_zero, List.set_cons_succ])
            refine L4.late_free 21 (v := .pointer (some ⟨gp, op + k0, none⟩)) rfl (by kernel_rfl) (by kernel_rfl) (by kernel_rfl) (by kernel_rfl) (by kernel_rfl) (by kernel_rfl) (fun _ _ _ h => h) (Or.inl ⟨by rfl, ?_⟩) hHeld ?_
            · (intro u _; go_simp)
            (try simp only [Act.put, List.setIfInBounds_toArray, List.set_cons_zero, List.set_cons_succ])
            refine L4.late_take 22 (v := .slice uo un uc) rfl (by kernel_rfl) (List.Mem.tail _ (List.Mem.tail _ (List.Mem.tail _ (List.Mem.tail _ (List.Mem.head _))))) (by kernel_rfl) (by kernel_rfl) (by kernel_rfl) (by kernel_rfl) (fun _ _ _ h => h) (Or.inl ⟨by rfl, ?_⟩) hHeld ?_
            · (intro u hu; (try dsimp only at hu); go_split_ands; go_simp)
            (try simp only [Act.put, List.setIfInBounds_toArray, List.set_cons_zero, List.set_cons_succ])
            refine L4.late_free 23 (v := .slice (some ⟨gt, 0, none⟩) tn tc) rfl (by kernel_rfl) (by kernel_rfl) (by kernel_rfl) (by kernel_rfl) (by kernel_rfl) (by kernel_rfl) (fun _ _ _ h => h) (Or.inl ⟨by rfl, ?_⟩) hHeld ?_
            · (intro u _; go_simp)
            (try simp only [Act.put, List.setIfInBounds_toArray, List.set_cons_zero, List.set_cons_succ])
            refine L4.late_free 24 (v := .int .i64 ((i : Nat) : Int)) rfl (by kernel_rfl) (by kernel_rfl) (by kernel_rfl) (by kernel_rfl) (by kernel_rfl) (by kernel_rfl) (fun _ _ _ h => h) (Or.inl ⟨by rfl, ?_⟩) hHeld ?_
            · (intro u _; go_simp)
            (try simp only [Act.put, List.setIfInBounds_toArray, List.set_cons_zero, List.set_cons_succ])
            refine L4.late_free 25 (v := .pointer (some ⟨gt, i, none⟩)) rfl (by kernel_rfl) (by kernel_rfl) (by kernel_rfl) (by kernel_rfl) (by kernel_rfl) (by kernel_rfl) (fun _ _ _ h => h) (Or.inl ⟨by rfl, ?_⟩) hHeld ?_
            · (intro u _; go_simp)
            (try simp only [Act.put, List.setIfInBounds_toArray, List.set_cons_zero, List.set_cons_succ])
            refine L4.late_take 26 (v := .int .i64 ((k : Nat) : Int)) rfl (by kernel_rfl) (List.Mem.tail _ (List.Mem.tail _ (List.Mem.tail _ (List.Mem.tail _ (List.Mem.tail _ (List.Mem.head _)))))) (by kernel_rfl) (by kernel_rfl) (by kernel_rfl) (by kernel_rfl) (fun _ _ _ h => h) (Or.inl ⟨by rfl, ?_⟩) hHeld ?_
            · (intro u hu; (try dsimp only at hu); go_split_ands; go_simp)
            (try simp only [Act.put, List.setIfInBounds_toArray, List.set_cons_zero, List.set_cons_succ])
            refine L4.late_step 27 (by kernel_rfl) rfl (fun K hK => ?_)
            go_simp
            refine (CH2.out _ B).mono ?_
            rintro e y7 ⟨rfl, hy7⟩
            have c7 : Below y6.heap.size y6 y7 := by rw [hy7]; exact Below.refl _ _
            clear hy7
            have B := B.trans (c7.mono B.size)
            clear c7 hHeld
            have hHeld := KEEP _ B
            go_wp2_with fail
            refine hK.out _ _ (L4.AllL.kept hHeld) ?_
            clear hK K
            (try simp only [Act.put, List.setIfInBounds_toArray, List.set_cons_zero, List.set_cons_succ])
            refine L4.late_free 28 (v := .bool false) rfl (by kernel_rfl) (by kernel_rfl) (by kernel_rfl) (by kernel_rfl) (by kernel_rfl) (by kernel_rfl) (fun _ _ _ h => h) (Or.inl ⟨by rfl, ?_⟩) hHeld ?_
            · (intro u _; go_simp)
            (try simp only [Act.put, List.setIfInBounds_toArray, List.set_cons_zero, List.set_cons_succ])
            refine L4.late_free 29 (v := .bool false) rfl (by kernel_rfl) (by kernel_rfl) (by kernel_rfl) (by kernel_rfl) (by kernel_rfl) (by kernel_rfl) (fun _ _ _ h => h) (Or.inl ⟨by rfl, ?_⟩) hHeld ?_
            · (intro u _; go_simp)
            (try simp only [Act.put, List.setIfInBounds_toArray, List.set_cons_zero, List.set_cons_succ])
            refine L4.late_done (by kernel_rfl) ?_ _
            clear hHeld KEEP
            obtain ⟨wq, rfl⟩ : ∃ W, W = y7 := ⟨_, rfl⟩
            have HBQ : Hid (Below wr.heap.size wr wq) := B
            clear B
            clear CH1 CH2
          all_goals
            have HB2 : Hid (Below y7.heap.size y7 wq) := bstepB HB.out HBQ.out
            clear hx2 hx0 hr2 hr0 HUR HVR HBQ hiw hjl hkz hk0z hk hk0 HB
            go_wp2
            go_roundg (tn - (i + 1))
            case measure => omega
            case rel => exact ⟨i + 1, by first | rfl | go_num, by omega, by omega, Nat.le_refl _, HB2⟩
        · have hltz : ¬ (i : Int) < (tn : Int) := by omega
          go_wp2
          go_loopg [21, 22, 23, 24, 25, 26] tn (fun g1 v21 _v22 _v23 _v24 _v25 _v26 wr => ∃ i : Nat, v21 = .int .i64 i ∧ 1 ≤ i ∧ i ≤ tn ∧ tn - i ≤ g1 ∧ Hid (Below y7.heap.size y7 wr))
          case atStart => exact ⟨1, rfl, Nat.le_refl _, by omega, by omega, HB⟩
          case round =>
            clear HB hltz hin hg1
            obtain ⟨i, rfl, hi1, hin, hg1, HB⟩ := hrel
            obtain ⟨j2, hj2⟩ : ∃ j, j = i + 1 := ⟨_, rfl⟩
            have HJ2 : Hid (j2 = i + 1) := hj2
            have hjw : IntKind.i64.wrap ((i : Int) + 1) = (j2 : Int) := by rw [IntKind.wrap_i64]; omega
            by_cases hlt : j2 < tn
            · have hltz : (j2 : Int) < (tn : Int) := by omega
              obtain ⟨j0, hj0⟩ : ∃ j0, i = j0 + 1 := ⟨i - 1, by omega⟩
              obtain ⟨x, hx⟩ : ∃ x, T[i]? = some x := ⟨_, List.getElem?_eq_getElem (by rw [HTN.out]; omega)⟩
              obtain ⟨x0, hx0'⟩ : ∃ x, T[j0]? = some x := ⟨_, List.getElem?_eq_getElem (by rw [HTN.out]; omega)⟩
              obtain ⟨x2, hx4'⟩ : ∃ x, T[j2]? = some x := ⟨_, List.getElem?_eq_getElem (by rw [HTN.out]; omega)⟩
              obtain ⟨k, rfl, hk⟩ := HOP.out.pts i x hx
              obtain ⟨k0, rfl, hk0⟩ := HOP.out.pts j0 x0 hx0'
              obtain ⟨k2, rfl, hk2⟩ := HOP.out.pts j2 x2 hx4'
              rw [HPN.out] at hk
              have hopn := HOP.out.opn j0 _ _ _ hx0' (by rw [← hj0]; exact hx) (by rw [show j0 + 2 = j2 by omega]; exact hx4')
              rw [Int.toNat_natCast] at hopn
              have hbw := bstepB B7.out HB.out
              have hx2 : wr.cell? ⟨gt, i, none⟩ = some (.int .i64 ((k : Nat) : Int)) := HX.out wr i _ hbw hx
              have hx0 : wr.cell? ⟨gt, j0, none⟩ = some (.int .i64 ((k0 : Nat) : Int)) := HX.out wr j0 _ hbw hx0'
              have hx4 : wr.cell? ⟨gt, j2, none⟩ = some (.int .i64 ((k2 : Nat) : Int)) := HX.out wr j2 _ hbw hx4'
              have HX2 : Hid (∀ W, Below wr.heap.size wr W → W.cell? ⟨gt, i, none⟩ = some (.int .i64 ((k : Nat) : Int))) := fun W hW => HX.out W i _ (bstepB hbw hW) hx
              have hiw : IntKind.i64.wrap ((i : Int) - 1) = (j0 : Int) := by rw [IntKind.wrap_i64]; omega
              have hjl : (j0 : Int) < (tn : Int) := by omega
              have hil : (i : Int) < (tn : Int) := by omega
              have hkz : (k : Int) < (pn : Int) := by omega
              have hR := HR5.out wr (bstepB B6.out hbw)
              obtain ⟨u, gp, op, hu1, rfl, hr2⟩ := hR.out.at hk
              have hur := hR.inn k u hu1
              obtain ⟨xo, xn, xc, rfl⟩ : ∃ o n c, u = .slice o n c := by obtain ⟨ao, cap, e⟩ := hur.sl; exact ⟨_, _, _, e⟩
              change wr.cell? ⟨gp, op + k, none⟩ = some (.slice xo xn xc) at hr2
              have HUR : Hid (∀ W, Below wr.heap.size wr W → RG (Value.int .i64) W (.slice xo xn xc) (P.getD k [])) := fun W hW => hur.below (Nat.le_refl _) hW
              have HHS : Hid (∀ (W : World) (y : Int) (r : Bool), Below wr.heap.size wr W → decide (y ∈ P.getD k []) = r → Calls Tryz.prog 27 #[.slice xo xn xc, .int .i64 y] W fun e w' => e = .returned (.bool r) ∧ w' = W) := fun W y r hW hr => by
                have h5 := has16 (.slice xo xn xc) (P.getD k []) y W (HUR.out W hW)
                rwa [hr] at h5
              have HKP : Hid (k < P.length) := by show _ < _; rw [HPN.out]; exact hk
              clear hx hx0' hx4' hbw hR hu1 hur hj0 hj2 HUR
              by_cases hm : (k0 : Int) ∈ P.getD k [] ∧ (k2 : Int) ∈ P.getD k []
              · have HKA : Hid ((k : Int) ∈ A) := hopn.1 hm
                have CH1 : Hid (∀ W, Below wr.heap.size wr W → Calls Tryz.prog 27 #[.slice xo xn xc, .int .i64 ((k0 : Nat) : Int)] W fun e w' => e = .returned (.bool true) ∧ w' = W) := fun W hW => HHS.out W _ true hW (decide_eq_true hm.1)
                have CH2 : Hid (∀ W, Below wr.heap.size wr W → Calls Tryz.prog 27 #[.slice xo xn xc, .int .i64 ((k2 : Nat) : Int)] W fun e w' => e = .returned (.bool true) ∧ w' = W) := fun W hW => HHS.out W _ true hW (decide_eq_true hm.2)
                clear hm hopn HHS
                go_upto_region 30 with fail
                have KEEP : ∀ u, Below wr.heap.size wr u → L4.AllL u [(4, fun w' => w'.cell? ⟨gt, i, none⟩ = some (.int .i64 ((k : Nat) : Int))), (6, fun w' => w'.cell? ⟨gp, op + k, none⟩ = some (.slice xo xn xc)), (11, fun w' => w'.cell? ⟨gt, j0, none⟩ = some (.int .i64 ((k0 : Nat) : Int))), (18, fun w' => w'.cell? ⟨gt, i, none⟩ = some (.int .i64 ((k : Nat) : Int))), (20, fun w' => w'.cell? ⟨gp, op + k, none⟩ = some (.slice xo xn xc)), (25, fun w' => w'.cell? ⟨gt, j2, none⟩ = some (.int .i64 ((k2 : Nat) : Int)))] := fun u hu => ⟨keepR hu hx2, keepR hu hr2, keepR hu hx0, keepR hu hx2, keepR hu hr2, keepR hu hx4, trivial⟩
                refine L4.region_late [(4, fun w' => w'.cell? ⟨gt, i, none⟩ = some (.int .i64 ((k : Nat) : Int))), (6, fun w' => w'.cell? ⟨gp, op + k, none⟩ = some (.slice xo xn xc)), (11, fun w' => w'.cell? ⟨gt, j0, none⟩ = some (.int .i64 ((k0 : Nat) : Int))), (18, fun w' => w'.cell? ⟨gt, i, none⟩ = some (.int .i64 ((k : Nat) : Int))), (20, fun w' => w'.cell? ⟨gp, op + k, none⟩ = some (.slice xo xn xc)), (25, fun w' => w'.cell? ⟨gt, j2, none⟩ = some (.int .i64 ((k2 : Nat) : Int)))] (by kernel_rfl) ?_
                have B : Below wr.heap.size wr wr.drew := (Below.refl _ _).drew
                obtain ⟨w8, hw8⟩ : ∃ u, u = wr.drew := ⟨_, rfl⟩
                rw [← hw8] at B ⊢
                clear hw8
                have hHeld := KEEP _ B
                refine L4.late_free 0 (v := .slice (some ⟨gp, op, none⟩) pn pc) rfl (by kernel_rfl) (by kernel_rfl) (by kernel_rfl) (by kernel_rfl) (by kernel_rfl) (by kernel_rfl) (fun _ _ _ h => h) (Or.inl ⟨by rfl, ?_⟩) hHeld ?_
                · (intro u _; go_simp)
                (try simp only [Act.put, List.setIfInBounds_toArray, List.set_cons_zero, List.set_cons_succ])
                refine L4.late_free 1 (v := .slice (some ⟨gt, 0, none⟩) tn tc) rfl (by kernel_rfl) (by kernel_rfl) (by kernel_rfl) (by kernel_rfl) (by kernel_rfl) (by kernel_rfl) (fun _ _ _ h => h) (Or.inl ⟨by rfl, ?_⟩) hHeld ?_
                · (intro u _; go_simp)
                (try simp only [Act.put, List.setIfInBounds_toArray, List.set_cons_zero, List.set_cons_succ])
                refine L4.late_free 2 (v := .int .i64 ((i : Nat) : Int)) rfl (by kernel_rfl) (by kernel_rfl) (by kernel_rfl) (by kernel_rfl) (by kernel_rfl) (by kernel_rfl) (fun _ _ _ h => h) (Or.inl ⟨by rfl, ?_⟩) hHeld ?_
                · (intro u _; go_simp)
                (try simp only [Act.put, List.setIfInBounds_toArray, List.set_cons_zero, List.set_cons_succ])
                refine L4.late_free 3 (v := .pointer (some ⟨gt, i, none⟩)) rfl (by kernel_rfl) (by kernel_rfl) (by kernel_rfl) (by kernel_rfl) (by kernel_rfl) (by kernel_rfl) (fun _ _ _ h => h) (Or.inl ⟨by rfl, ?_⟩) hHeld ?_
                · (intro u _; go_simp)
                (try simp only [Act.put, List.setIfInBounds_toArray, List.set_cons_zero, List.set_cons_succ])
                refine L4.late_take 4 (v := .int .i64 ((k : Nat) : Int)) rfl (by kernel_rfl) (List.Mem.head _) (by kernel_rfl) (by kernel_rfl) (by kernel_rfl) (by kernel_rfl) (fun _ _ _ h => h) (Or.inl ⟨by rfl, ?_⟩) hHeld ?_
                · (intro u hu; (try dsimp only at hu); go_split_ands; go_simp)
                (try simp only [Act.put, List.setIfInBounds_toArray, List.set_cons_zero, List.set_cons_succ])
                refine L4.late_free 5 (v := .pointer (some ⟨gp, op + k, none⟩)) rfl (by kernel_rfl) (by kernel_rfl) (by kernel_rfl) (by kernel_rfl) (by kernel_rfl) (by kernel_rfl) (fun _ _ _ h => h) (Or.inl ⟨by rfl, ?_⟩) hHeld ?_
                · (intro u _; go_simp)
                (try simp only [Act.put, List.setIfInBounds_toArray, List.set_cons_zero, List.set_cons_succ])
                refine L4.late_take 6 (v := .slice xo xn xc) rfl (by kernel_rfl) (List.Mem.tail _ (List.Mem.head _)) (by kernel_rfl) (by kernel_rfl) (by kernel_rfl) (by kernel_rfl) (fun _ _ _ h => h) (Or.inl ⟨by rfl, ?_⟩) hHeld ?_
                · (intro u hu; (try dsimp only at hu); go_split_ands; go_simp)
                (try simp only [Act.put, List.setIfInBounds_toArray, List.set_cons_zero, List.set_cons_succ])
                refine L4.late_free 7 (v := .slice (some ⟨gt, 0, none⟩) tn tc) rfl (by kernel_rfl) (by kernel_rfl) (by kernel_rfl) (by kernel_rfl) (by kernel_rfl) (by kernel_rfl) (fun _ _ _ h => h) (Or.inl ⟨by rfl, ?_⟩) hHeld ?_
                · (intro u _; go_simp)
                (try simp only [Act.put, List.setIfInBounds_toArray, List.set_cons_zero, List.set_cons_succ])
                refine L4.late_free 8 (v := .int .i64 ((i : Nat) : Int)) rfl (by kernel_rfl) (by kernel_rfl) (by kernel_rfl) (by kernel_rfl) (by kernel_rfl) (by kernel_rfl) (fun _ _ _ h => h) (Or.inl ⟨by rfl, ?_⟩) hHeld ?_
                · (intro u _; go_simp)
                (try simp only [Act.put, List.setIfInBounds_toArray, List.set_cons_zero, List.set_cons_succ])
                refine L4.late_free 9 (v := .int .i64 ((j0 : Nat) : Int)) rfl (by kernel_rfl) (by kernel_rfl) (by kernel_rfl) (by kernel_rfl) (by kernel_rfl) (by kernel_rfl) (fun _ _ _ h => h) (Or.inl ⟨by rfl, ?_⟩) hHeld ?_
                · (intro u _; go_simp)
                (try simp only [Act.put, List.setIfInBounds_toArray, List.set_cons_zero, List.set_cons_succ])
                refine L4.late_free 10 (v := .pointer (some ⟨gt, j0, none⟩)) rfl (by kernel_rfl) (by kernel_rfl) (by kernel_rfl) (by kernel_rfl) (by kernel_rfl) (by kernel_rfl) (fun _ _ _ h => h) (Or.inl ⟨by rfl, ?_⟩) hHeld ?_
                · (intro u _; go_simp)
                (try simp only [Act.put, List.setIfInBounds_toArray, List.set_cons_zero, List.set_cons_succ])
                refine L4.late_take 11 (v := .int .i64 ((k0 : Nat) : Int)) rfl (by kernel_rfl) (List.Mem.tail _ (List.Mem.tail _ (List.Mem.head _))) (by kernel_rfl) (by kernel_rfl) (by kernel_rfl) (by kernel_rfl) (fun _ _ _ h => h) (Or.inl ⟨by rfl, ?_⟩) hHeld ?_
                · (intro u hu; (try dsimp only at hu); go_split_ands; go_simp)
                (try simp only [Act.put, List.setIfInBounds_toArray, List.set_cons_zero, List.set_cons_succ])
                refine L4.late_step 12 (by kernel_rfl) rfl (fun K hK => ?_)
                go_simp
                refine (CH1.out _ B).mono ?_
                rintro e y9 ⟨rfl, hy9⟩
                have c9 : Below w8.heap.size w8 y9 := by rw [hy9]; exact Below.refl _ _
                clear hy9
                have B := B.trans (c9.mono B.size)
                clear c9 hHeld
                have hHeld := KEEP _ B
                go_wp2_with fail
                refine hK.out _ _ (L4.AllL.kept hHeld) ?_
                clear hK K
                (try simp only [Act.put, List.setIfInBounds_toArray, List.set_cons_zero, List.set_cons_succ])
                refine L4.late_free 13 (v := .bool true) rfl (by kernel_rfl) (by kernel_rfl) (by kernel_rfl) (by kernel_rfl) (by kernel_rfl) (by kernel_rfl) (fun _ _ _ h => h) (Or.inl ⟨by rfl, ?_⟩) hHeld ?_
                · (intro u _; go_simp)
                (try simp only [Act.put, List.setIfInBounds_toArray, List.set_cons_zero, List.set_cons_succ])
                refine L4.late_free 14 (v := .slice (some ⟨gp, op, none⟩) pn pc) rfl (by kernel_rfl) (by kernel_rfl) (by kernel_rfl) (by kernel_rfl) (by kernel_rfl) (by kernel_rfl) (fun _ _ _ h => h) (Or.inl ⟨by rfl, ?_⟩) hHeld ?_
                · (intro u _; go_simp)
                (try simp only [Act.put, List.setIfInBounds_toArray, List.set_cons_zero, List.set_cons_succ])
                refine L4.late_free 15 (v := .slice (some ⟨gt, 0, none⟩) tn tc) rfl (by kernel_rfl) (by kernel_rfl) (by kernel_rfl) (by kernel_rfl) (by kernel_rfl) (by kernel_rfl) (fun _ _ _ h => h) (Or.inl ⟨by rfl, ?_⟩) hHeld ?_
                · (intro u _; go_simp)
                (try simp only [Act.put, List.setIfInBounds_toArray, List.set_cons_zero, List.set_cons_succ])
                refine L4.late_free 16 (v := .int .i64 ((i : Nat) : Int)) rfl (by kernel_rfl) (by kernel_rfl) (by kernel_rfl) (by kernel_rfl) (by kernel_rfl) (by kernel_rfl) (fun _ _ _ h => h) (Or.inl ⟨by rfl, ?_⟩) hHeld ?_
                · (intro u _; go_simp)
                (try simp only [Act.put, List.setIfInBounds_toArray, List.set_cons_zero, List.set_cons_succ])
                refine L4.late_free 17 (v := .pointer (some ⟨gt, i, none⟩)) rfl (by kernel_rfl) (by kernel_rfl) (by kernel_rfl) (by kernel_rfl) (by kernel_rfl) (by kernel_rfl) (fun _ _ _ h => h) (Or.inl ⟨by rfl, ?_⟩) hHeld ?_
                · (intro u _; go_simp)
                (try simp only [Act.put, List.setIfInBounds_toArray, List.set_cons_zero, List.set_cons_succ])
                refine L4.late_take 18 (v := .int .i64 ((k : Nat) : Int)) rfl (by kernel_rfl) (List.Mem.tail _ (List.Mem.tail _ (List.Mem.tail _ (List.Mem.head _)))) (by kernel_rfl) (by kernel_rfl) (by kernel_rfl) (by kernel_rfl) (fun _ _ _ h => h) (Or.inl ⟨by rfl, ?_⟩) hHeld ?_
                · (intro u hu; (try dsimp only at hu); go_split_ands; go_simp)
                (try simp only [Act.put, List.setIfInBounds_toArray, List.set_cons_zero, List.set_cons_succ])
                refine L4.late_free 19 (v := .pointer (some ⟨gp, op + k, none⟩)) rfl (by kernel_rfl) (by kernel_rfl) (by kernel_rfl) (by kernel_rfl) (by kernel_rfl) (by kernel_rfl) (fun _ _ _ h => h) (Or.inl ⟨by rfl, ?_⟩) hHeld ?_
                · (intro u _; go_simp)
                (try simp only [Act.put, List.setIfInBounds_toArray, List.set_cons_zero, List.set_cons_succ])
                refine L4.late_take 20 (v := .slice xo xn xc) rfl (by kernel_rfl) (List.Mem.tail _ (List.Mem.tail _ (List.Mem.tail _ (List.Mem.tail _ (List.Mem.head _))))) (by kernel_rfl) (by kernel_rfl) (by kernel_rfl) (by kernel_rfl) (fun _ _ _ h => h) (Or.inl ⟨by rfl, ?_⟩) hHeld ?_
                · (intro u hu; (try dsimp only at hu); go_split_ands; go_simp)
                (try simp only [Act.put, List.setIfInBounds_toArray, List.set_cons_zero, List.set_cons_succ])
                refine L4.late_free 21 (v := .slice (some ⟨gt, 0, none⟩) tn tc) rfl (by kernel_rfl) (by kernel_rfl) (by kernel_rfl) (by kernel_rfl) (by kernel_rfl) (by kernel_rfl) (fun _ _ _ h => h) (Or.inl ⟨by rfl, ?_⟩) hHeld ?_
                · (intro u _; go_simp)
                (try simp only [Act.put, List.setIfInBounds_toArray, List.set_cons_zero, List.set_cons_succ])
                refine L4.late_free 22 (v := .int .i64 ((i : Nat) : Int)) rfl (by kernel_rfl) (by kernel_rfl) (by kernel_rfl) (by kernel_rfl) (by kernel_rfl) (by kernel_rfl) (fun _ _ _ h => h) (Or.inl ⟨by rfl, ?_⟩) hHeld ?_
                · (intro u _; go_simp)
                (try simp only [Act.put, List.setIfInBounds_toArray, List.set_cons_zero, List.set_cons_succ])
                refine L4.late_free 23 (v := .int .i64 ((j2 : Nat) : Int)) rfl (by kernel_rfl) (by kernel_rfl) (by kernel_rfl) (by kernel_rfl) (by kernel_rfl) (by kernel_rfl) (fun _ _ _ h => h) (Or.inl ⟨by rfl, ?_⟩) hHeld ?_
                · (intro u _; go_simp)
                (try simp only [Act.put, List.setIfInBounds_toArray, List.set_cons_zero, List.set_cons_succ])
                refine L4.late_free 24 (v := .pointer (some ⟨gt, j2, none⟩)) rfl (by kernel_rfl) (by kernel_rfl) (by kernel_rfl) (by kernel_rfl) (by kernel_rfl) (by kernel_rfl) (fun _ _ _ h => h) (Or.inl ⟨by rfl, ?_⟩) hHeld ?_
                · (intro u _; go_simp)
                (try simp only [Act.put, List.setIfInBounds_toArray, List.set_cons_zero, List.set_cons_succ])
                refine L4.late_take 25 (v := .int .i64 ((k2 : Nat) : Int)) rfl (by kernel_rfl) (List.Mem.tail _ (List.Mem.tail _ (List.Mem.tail _ (List.Mem.tail _ (List.Mem.tail _ (List.Mem.head _)))))) (by kernel_rfl) (by kernel_rfl) (by kernel_rfl) (by kernel_rfl) (fun _ _ _ h => h) (Or.inl ⟨by rfl, ?_⟩) hHeld ?_
                · (intro u hu; (try dsimp only at hu); go_split_ands; go_simp)
                (try simp only [Act.put, List.setIfInBounds_toArray, List.set_cons_zero, List.set_cons_succ])
                refine L4.late_step 26 (by kernel_rfl) rfl (fun K hK => ?_)
                go_simp
                refine (CH2.out _ B).mono ?_
                rintro e y10 ⟨rfl, hy10⟩
                have c10 : Below y9.heap.size y9 y10 := by rw [hy10]; exact Below.refl _ _
                clear hy10
                have B := B.trans (c10.mono B.size)
                clear c10 hHeld
                have hHeld := KEEP _ B
                go_wp2_with fail
                refine hK.out _ _ (L4.AllL.kept hHeld) ?_
                clear hK K
                (try simp only [Act.put, List.setIfInBounds_toArray, List.set_cons_zero, List.set_cons_succ])
                refine L4.late_free 27 (v := .bool true) rfl (by kernel_rfl) (by kernel_rfl) (by kernel_rfl) (by kernel_rfl) (by kernel_rfl) (by kernel_rfl) (fun _ _ _ h => h) (Or.inl ⟨by rfl, ?_⟩) hHeld ?_
                · (intro u _; go_simp)
                (try simp only [Act.put, List.setIfInBounds_toArray, List.set_cons_zero, List.set_cons_succ])
                refine L4.late_step 28 (by kernel_rfl) rfl (fun K hK => ?_)
                go_simp
                refine hK.out _ _ (L4.AllL.kept hHeld) ?_
                clear hK K
                (try simp only [Act.put, List.setIfInBounds_toArray, List.set_cons_zero, List.set_cons_succ])
                refine L4.late_done (by kernel_rfl) ?_ _
                clear hHeld KEEP
                obtain ⟨wq, rfl⟩ : ∃ W, W = y10 := ⟨_, rfl⟩
                have HBQ : Hid (Below wr.heap.size wr wq) := B
                clear B
                clear hx2 hx0 hx4 hr2 CH1 CH2 hiw
                have hx2 : wq.cell? ⟨gt, i, none⟩ = some (.int .i64 ((k : Nat) : Int)) := HX2.out wq HBQ.out
                obtain ⟨WA, hWA⟩ : ∃ W, W = wq.alloc (.cells #[.int .i64 ((k : Nat) : Int)] 3) := ⟨_, rfl⟩
                obtain ⟨ga, hga⟩ : ∃ g, g = wq.heap.size := ⟨_, rfl⟩
                have hba : Below wq.heap.size wq WA := by rw [hWA]; exact belowB _ _
                have hla : RG (Value.int .i64) WA (.slice (some ⟨ga, 0, none⟩) 1 1) [((k : Nat) : Int)] := by rw [hWA, hga]; exact (OG.lit (enc := Value.int .i64) 3 wq [((k : Nat) : Int)] (by unfold maxLen; simp)).rg
                have HBA : Hid (Below y7.heap.size y7 WA) := bstepB (bstepB HB.out HBQ.out) hba
                have hck := mn_ck HMN.out
                have CB : Hid _ := belowD (.slice (some ⟨gp, op, none⟩) pn pc) (.slice (some ⟨ga, 0, none⟩) 1 1) pvs P [((k : Nat) : Int)] WA (HR5.out WA (bstepB B6.out (bstepB B7.out HBA.out))) pn HPN.out (by omega) (fun i => by have := len_cl (ck_zero hck) i; rw [HPN.out] at this; omega) hla (by simp)
                have HWA : Hid (WA = wq.alloc (.cells #[.int .i64 ((k : Nat) : Int)] 3)) := hWA
                have HGA : Hid (ga = wq.heap.size) := hga
                clear hWA hga hba hla hck HB HBQ
                go_wp2_with fail
                rw [← HWA.out, ← HGA.out]
                clear hx2
                refine Calls.mono CB.out ?_
                rintro e z1 ⟨hab, bz1⟩
                obtain ⟨bv, R, rfl, hR1, -, hR3⟩ : ∃ tv R, e = .returned (.tuple #[tv, .int .i64 0]) ∧ OG (Value.int .i64) WA.heap.size 3 z1 tv R ∧ R.Pairwise (· < ·) ∧ ∀ x, x ∈ R ↔ RchP (chL P pn) [((k : Nat) : Int)] x := by
                  rcases hab with ⟨h1, _⟩ | ⟨_, ⟨h1, _⟩ | ⟨_, tv, R, h2, h3, h4, h5⟩⟩
                  · exact absurd (mn_ck HMN.out) h1
                  · exfalso
                    have h6 : noPts (pn : Int) [((k : Nat) : Int)] = false := by simp [noPts, noPt]; omega
                    rw [h6] at h1; simp at h1
                  · exact ⟨tv, R, h2, h3, h4, h5⟩
                obtain ⟨bo, bn, bc, rfl⟩ : ∃ o n c, bv = .slice o n c := by obtain ⟨ao, cap, e, -⟩ := hR1.sl; exact ⟨_, _, _, e⟩
                have HGV : Hid (∃ g ∈ G, g ∈ R) := by
                  obtain ⟨g, hg, hr⟩ := below_given (mn_pts HMN.out) HPG.out HAB.out HKA.out
                  rw [HPN.out] at hr
                  exact ⟨g, hg, (hR3 g).2 hr⟩
                have HRR : Hid (∀ W, Below z1.heap.size z1 W → RG (Value.int .i64) W (.slice bo bn bc) R) := fun W hW => hR1.rg.below (Nat.le_refl _) hW
                have HRN : Hid (R.length = bn) := hR1.rg.len
                have hbnm : bn ≤ 9223372036854775807 := by have := hR1.rg.room.1; have := hR1.rg.room.2.1; unfold maxLen at *; omega
                have HBZ : Hid (Below y7.heap.size y7 z1) := bstepB HBA.out bz1
                have HBZ0 : Hid (Below z1.heap.size z1 z1) := Below.refl _ _
                clear CB hab hR1 hR3 bz1 HWA HGA HBA HKA
                go_wp2
                go_loopg [25, 26] bn (fun g2 v25 v26 wz => ∃ (s : Bool) (j : Nat), v25 = .bool s ∧ v26 = .int .i64 j ∧ j ≤ bn ∧ bn - j ≤ g2 ∧ Hid (SnP G R s j) ∧ Hid (Below z1.heap.size z1 wz))
                case atStart => exact ⟨false, 0, rfl, rfl, Nat.zero_le _, by omega, (by show (_ ↔ _); simp), HBZ0⟩
                case round =>
                  clear HBZ0
                  obtain ⟨s, j, rfl, rfl, hjn, hg2, HS, HBJ⟩ := hrel
                  by_cases hltj : j < bn
                  · have hltjz : (j : Int) < (bn : Int) := by omega
                    obtain ⟨y, gy, oy, hy1, rfl, hy2⟩ := (HRR.out wr HBJ.out).at hltj
                    change wr.cell? ⟨gy, oy + j, none⟩ = some (.int .i64 y) at hy2
                    have HTK : Hid (R.take (j + 1) = R.take j ++ [y]) := by show _ = _; rw [List.take_add_one, hy1]; rfl
                    have CHG : Hid _ := has16 (.slice qo qn qc) G y wr (HQ5.out wr (bstepB B6.out (bstepB B7.out (bstepB HBZ.out HBJ.out))))
                    obtain ⟨d, hd⟩ : ∃ d, d = decide (y ∈ G) := ⟨_, rfl⟩
                    rw [← hd] at CHG
                    have HS2 : SnP G R (s || d) (j + 1) := by
                      show (_ ↔ _)
                      rw [Bool.or_eq_true, (show (s = true ↔ ∃ g ∈ G, g ∈ R.take j) from HS.out), hd, HTK.out, decide_eq_true_iff]
                      constructor
                      · rintro (⟨g, hg, h1⟩ | h1)
                        · exact ⟨g, hg, List.mem_append_left _ h1⟩
                        · exact ⟨y, h1, List.mem_append_right _ (by simp)⟩
                      · rintro ⟨g, hg, h1⟩
                        rcases List.mem_append.1 h1 with h2 | h2
                        · exact Or.inl ⟨g, hg, h2⟩
                        · rw [List.mem_singleton.1 h2] at hg; exact Or.inr hg
                    clear hy1 hd HS HTK
                    cases s with
                    | true =>
                      clear CHG
                      have HS3 : Hid (SnP G R true (j + 1)) := HS2
                      clear HS2
                      go_wp2
                      clear hy2
                      go_roundg (bn - (j + 1))
                      case measure => omega
                      case rel => exact ⟨true, j + 1, rfl, by first | rfl | go_num, by omega, Nat.le_refl _, HS3, HBJ⟩
                    | false =>
                      have HS3 : Hid (SnP G R d (j + 1)) := by have h8 := HS2; rw [Bool.false_or] at h8; exact h8
                      clear HS2
                      go_wp2_with fail
                      refine Calls.mono CHG.out ?_
                      rintro e yy ⟨rfl, hyy⟩
                      rw [hyy]
                      clear CHG hyy yy
                      go_wp2
                      clear hy2
                      go_roundg (bn - (j + 1))
                      case measure => omega
                      case rel => exact ⟨d, j + 1, rfl, by first | rfl | go_num, by omega, Nat.le_refl _, HS3, HBJ⟩
                  · have hltjz : ¬ (j : Int) < (bn : Int) := by omega
                    obtain rfl : s = true := by
                      have h8 : (s = true ↔ ∃ g ∈ G, g ∈ R.take j) := HS.out
                      rw [List.take_of_length_le (by rw [HRN.out]; omega)] at h8
                      exact h8.2 HGV.out
                    have HB2 : Hid (Below y7.heap.size y7 wr) := bstepB HBZ.out HBJ.out
                    clear HS
                    go_wp2
                    go_roundg (tn - (i + 1))
                    case measure => omega
                    case rel => exact ⟨j2, rfl, by have := HJ2.out; omega, by omega, by have := HJ2.out; omega, HB2⟩
              · have HKG : Hid ((k : Int) ∉ G) := hopn.2 hm
                by_cases hc : (k0 : Int) ∈ P.getD k []
                case' pos =>
                  have hc2 : (k2 : Int) ∉ P.getD k [] := fun h => hm ⟨hc, h⟩
                  have CH1 : Hid (∀ W, Below wr.heap.size wr W → Calls Tryz.prog 27 #[.slice xo xn xc, .int .i64 ((k0 : Nat) : Int)] W fun e w' => e = .returned (.bool true) ∧ w' = W) := fun W hW => HHS.out W _ true hW (decide_eq_true hc)
                  have CH2 : Hid (∀ W, Below wr.heap.size wr W → Calls Tryz.prog 27 #[.slice xo xn xc, .int .i64 ((k2 : Nat) : Int)] W fun e w' => e = .returned (.bool false) ∧ w' = W) := fun W hW => HHS.out W _ false hW (decide_eq_false hc2)
                  clear hm hopn HHS hc hc2
                  go_upto_region 30 with fail
                  have KEEP : ∀ u, Below wr.heap.size wr u → L4.AllL u [(4, fun w' => w'.cell? ⟨gt, i, none⟩ = some (.int .i64 ((k : Nat) : Int))), (6, fun w' => w'.cell? ⟨gp, op + k, none⟩ = some (.slice xo xn xc)), (11, fun w' => w'.cell? ⟨gt, j0, none⟩ = some (.int .i64 ((k0 : Nat) : Int))), (18, fun w' => w'.cell? ⟨gt, i, none⟩ = some (.int .i64 ((k : Nat) : Int))), (20, fun w' => w'.cell? ⟨gp, op + k, none⟩ = some (.slice xo xn xc)), (25, fun w' => w'.cell? ⟨gt, j2, none⟩ = some (.int .i64 ((k2 : Nat) : Int)))] := fun u hu => ⟨keepR hu hx2, keepR hu hr2, keepR hu hx0, keepR hu hx2, keepR hu hr2, keepR hu hx4, trivial⟩
                  refine L4.region_late [(4, fun w' => w'.cell? ⟨gt, i, none⟩ = some (.int .i64 ((k : Nat) : Int))), (6, fun w' => w'.cell? ⟨gp, op + k, none⟩ = some (.slice xo xn xc)), (11, fun w' => w'.cell? ⟨gt, j0, none⟩ = some (.int .i64 ((k0 : Nat) : Int))), (18, fun w' => w'.cell? ⟨gt, i, none⟩ = some (.int .i64 ((k : Nat) : Int))), (20, fun w' => w'.cell? ⟨gp, op + k, none⟩ = some (.slice xo xn xc)), (25, fun w' => w'.cell? ⟨gt, j2, none⟩ = some (.int .i64 ((k2 : Nat) : Int)))] (by kernel_rfl) ?_
                  have B : Below wr.heap.size wr wr.drew := (Below.refl _ _).drew
                  obtain ⟨w11, hw11⟩ : ∃ u, u = wr.drew := ⟨_, rfl⟩
                  rw [← hw11] at B ⊢
                  clear hw11
                  have hHeld := KEEP _ B
                  refine L4.late_free 0 (v := .slice (some ⟨gp, op, none⟩) pn pc) rfl (by kernel_rfl) (by kernel_rfl) (by kernel_rfl) (by kernel_rfl) (by kernel_rfl) (by kernel_rfl) (fun _ _ _ h => h) (Or.inl ⟨by rfl, ?_⟩) hHeld ?_
                  · (intro u _; go_simp)
                  (try simp only [Act.put, List.setIfInBounds_toArray, List.set_cons_zero, List.set_cons_succ])
                  refine L4.late_free 1 (v := .slice (some ⟨gt, 0, none⟩) tn tc) rfl (by kernel_rfl) (by kernel_rfl) (by kernel_rfl) (by kernel_rfl) (by kernel_rfl) (by kernel_rfl) (fun _ _ _ h => h) (Or.inl ⟨by rfl, ?_⟩) hHeld ?_
                  · (intro u _; go_simp)
                  (try simp only [Act.put, List.setIfInBounds_toArray, List.set_cons_zero, List.set_cons_succ])
                  refine L4.late_free 2 (v := .int .i64 ((i : Nat) : Int)) rfl (by kernel_rfl) (by kernel_rfl) (by kernel_rfl) (by kernel_rfl) (by kernel_rfl) (by kernel_rfl) (fun _ _ _ h => h) (Or.inl ⟨by rfl, ?_⟩) hHeld ?_
                  · (intro u _; go_simp)
                  (try simp only [Act.put, List.setIfInBounds_toArray, List.set_cons_zero, List.set_cons_succ])
                  refine L4.late_free 3 (v := .pointer (some ⟨gt, i, none⟩)) rfl (by kernel_rfl) (by kernel_rfl) (by kernel_rfl) (by kernel_rfl) (by kernel_rfl) (by kernel_rfl) (fun _ _ _ h => h) (Or.inl ⟨by rfl, ?_⟩) hHeld ?_
                  · (intro u _; go_simp)
                  (try simp only [Act.put, List.setIfInBounds_toArray, List.set_cons_zero, List.set_cons_succ])
                  refine L4.late_take 4 (v := .int .i64 ((k : Nat) : Int)) rfl (by kernel_rfl) (List.Mem.head _) (by kernel_rfl) (by kernel_rfl) (by kernel_rfl) (by kernel_rfl) (fun _ _ _ h => h) (Or.inl ⟨by rfl, ?_⟩) hHeld ?_
                  · (intro u hu; (try dsimp only at hu); go_split_ands; go_simp)
                  (try simp only [Act.put, List.setIfInBounds_toArray, List.set_cons_zero, List.set_cons_succ])
                  refine L4.late_free 5 (v := .pointer (some ⟨gp, op + k, none⟩)) rfl (by kernel_rfl) (by kernel_rfl) (by kernel_rfl) (by kernel_rfl) (by kernel_rfl) (by kernel_rfl) (fun _ _ _ h => h) (Or.inl ⟨by rfl, ?_⟩) hHeld ?_
                  · (intro u _; go_simp)
                  (try simp only [Act.put, List.setIfInBounds_toArray, List.set_cons_zero, List.set_cons_succ])
                  refine L4.late_take 6 (v := .slice xo xn xc) rfl (by kernel_rfl) (List.Mem.tail _ (List.Mem.head _)) (by kernel_rfl) (by kernel_rfl) (by kernel_rfl) (by kernel_rfl) (fun _ _ _ h => h) (Or.inl ⟨by rfl, ?_⟩) hHeld ?_
                  · (intro u hu; (try dsimp only at hu); go_split_ands; go_simp)
                  (try simp only [Act.put, List.setIfInBounds_toArray, List.set_cons_zero, List.set_cons_succ])
                  refine L4.late_free 7 (v := .slice (some ⟨gt, 0, none⟩) tn tc) rfl (by kernel_rfl) (by kernel_rfl) (by kernel_rfl) (by kernel_rfl) (by kernel_rfl) (by kernel_rfl) (fun _ _ _ h => h) (Or.inl ⟨by rfl, ?_⟩) hHeld ?_
                  · (intro u _; go_simp)
                  (try simp only [Act.put, List.setIfInBounds_toArray, List.set_cons_zero, List.set_cons_succ])
                  refine L4.late_free 8 (v := .int .i64 ((i : Nat) : Int)) rfl (by kernel_rfl) (by kernel_rfl) (by kernel_rfl) (by kernel_rfl) (by kernel_rfl) (by kernel_rfl) (fun _ _ _ h => h) (Or.inl ⟨by rfl, ?_⟩) hHeld ?_
                  · (intro u _; go_simp)
                  (try simp only [Act.put, List.setIfInBounds_toArray, List.set_cons_zero, List.set_cons_succ])
                  refine L4.late_free 9 (v := .int .i64 ((j0 : Nat) : Int)) rfl (by kernel_rfl) (by kernel_rfl) (by kernel_rfl) (by kernel_rfl) (by kernel_rfl) (by kernel_rfl) (fun _ _ _ h => h) (Or.inl ⟨by rfl, ?_⟩) hHeld ?_
                  · (intro u _; go_simp)
                  (try simp only [Act.put, List.setIfInBounds_toArray, List.set_cons_zero, List.set_cons_succ])
                  refine L4.late_free 10 (v := .pointer (some ⟨gt, j0, none⟩)) rfl (by kernel_rfl) (by kernel_rfl) (by kernel_rfl) (by kernel_rfl) (by kernel_rfl) (by kernel_rfl) (fun _ _ _ h => h) (Or.inl ⟨by rfl, ?_⟩) hHeld ?_
                  · (intro u _; go_simp)
                  (try simp only [Act.put, List.setIfInBounds_toArray, List.set_cons_zero, List.set_cons_succ])
                  refine L4.late_take 11 (v := .int .i64 ((k0 : Nat) : Int)) rfl (by kernel_rfl) (List.Mem.tail _ (List.Mem.tail _ (List.Mem.head _))) (by kernel_rfl) (by kernel_rfl) (by kernel_rfl) (by kernel_rfl) (fun _ _ _ h => h) (Or.inl ⟨by rfl, ?_⟩) hHeld ?_
                  · (intro u hu; (try dsimp only at hu); go_split_ands; go_simp)
                  (try simp only [Act.put, List.setIfInBounds_toArray, List.set_cons_zero, List.set_cons_succ])
                  refine L4.late_step 12 (by kernel_rfl) rfl (fun K hK => ?_)
                  go_simp
                  refine (CH1.out _ B).mono ?_
                  rintro e y12 ⟨rfl, hy12⟩
                  have c12 : Below w11.heap.size w11 y12 := by rw [hy12]; exact Below.refl _ _
                  clear hy12
                  have B := B.trans (c12.mono B.size)
                  clear c12 hHeld
                  have hHeld := KEEP _ B
                  go_wp2_with fail
                  refine hK.out _ _ (L4.AllL.kept hHeld) ?_
                  clear hK K
                  (try simp only [Act.put, List.setIfInBounds_toArray, List.set_cons_zero, List.set_cons_succ])
                  refine L4.late_free 13 (v := .bool true) rfl (by kernel_rfl) (by kernel_rfl) (by kernel_rfl) (by kernel_rfl) (by kernel_rfl) (by kernel_rfl) (fun _ _ _ h => h) (Or.inl ⟨by rfl, ?_⟩) hHeld ?_
                  · (intro u _; go_simp)
                  (try simp only [Act.put, List.setIfInBounds_toArray, List.set_cons_zero, List.set_cons_succ])
                  refine L4.late_free 14 (v := .slice (some ⟨gp, op, none⟩) pn pc) rfl (by kernel_rfl) (by kernel_rfl) (by kernel_rfl) (by kernel_rfl) (by kernel_rfl) (by kernel_rfl) (fun _ _ _ h => h) (Or.inl ⟨by rfl, ?_⟩) hHeld ?_
                  · (intro u _; go_simp)
                  (try simp only [Act.put, List.setIfInBounds_toArray, List.set_cons_zero, List.set_cons_succ])
                  refine L4.late_free 15 (v := .slice (some ⟨gt, 0, none⟩) tn tc) rfl (by kernel_rfl) (by kernel_rfl) (by kernel_rfl) (by kernel_rfl) (by kernel_rfl) (by kernel_rfl) (fun _ _ _ h => h) (Or.inl ⟨by rfl, ?_⟩) hHeld ?_
                  · (intro u _; go_simp)
                  (try simp only [Act.put, List.setIfInBounds_toArray, List.set_cons_zero, List.set_cons_succ])
                  refine L4.late_free 16 (v := .int .i64 ((i : Nat) : Int)) rfl (by kernel_rfl) (by kernel_rfl) (by kernel_rfl) (by kernel_rfl) (by kernel_rfl) (by kernel_rfl) (fun _ _ _ h => h) (Or.inl ⟨by rfl, ?_⟩) hHeld ?_
                  · (intro u _; go_simp)
                  (try simp only [Act.put, List.setIfInBounds_toArray, List.set_cons_zero, List.set_cons_succ])
                  refine L4.late_free 17 (v := .pointer (some ⟨gt, i, none⟩)) rfl (by kernel_rfl) (by kernel_rfl) (by kernel_rfl) (by kernel_rfl) (by kernel_rfl) (by kernel_rfl) (fun _ _ _ h => h) (Or.inl ⟨by rfl, ?_⟩) hHeld ?_
                  · (intro u _; go_simp)
                  (try simp only [Act.put, List.setIfInBounds_toArray, List.set_cons_zero, List.set_cons_succ])
                  refine L4.late_take 18 (v := .int .i64 ((k : Nat) : Int)) rfl (by kernel_rfl) (List.Mem.tail _ (List.Mem.tail _ (List.Mem.tail _ (List.Mem.head _)))) (by kernel_rfl) (by kernel_rfl) (by kernel_rfl) (by kernel_rfl) (fun _ _ _ h => h) (Or.inl ⟨by rfl, ?_⟩) hHeld ?_
                  · (intro u hu; (try dsimp only at hu); go_split_ands; go_simp)
                  (try simp only [Act.put, List.setIfInBounds_toArray, List.set_cons_zero, List.set_cons_succ])
                  refine L4.late_free 19 (v := .pointer (some ⟨gp, op + k, none⟩)) rfl (by kernel_rfl) (by kernel_rfl) (by kernel_rfl) (by kernel_rfl) (by kernel_rfl) (by kernel_rfl) (fun _ _ _ h => h) (Or.inl ⟨by rfl, ?_⟩) hHeld ?_
                  · (intro u _; go_simp)
                  (try simp only [Act.put, List.setIfInBounds_toArray, List.set_cons_zero, List.set_cons_succ])
                  refine L4.late_take 20 (v := .slice xo xn xc) rfl (by kernel_rfl) (List.Mem.tail _ (List.Mem.tail _ (List.Mem.tail _ (List.Mem.tail _ (List.Mem.head _))))) (by kernel_rfl) (by kernel_rfl) (by kernel_rfl) (by kernel_rfl) (fun _ _ _ h => h) (Or.inl ⟨by rfl, ?_⟩) hHeld ?_
                  · (intro u hu; (try dsimp only at hu); go_split_ands; go_simp)
                  (try simp only [Act.put, List.setIfInBounds_toArray, List.set_cons_zero, List.set_cons_succ])
                  refine L4.late_free 21 (v := .slice (some ⟨gt, 0, none⟩) tn tc) rfl (by kernel_rfl) (by kernel_rfl) (by kernel_rfl) (by kernel_rfl) (by kernel_rfl) (by kernel_rfl) (fun _ _ _ h => h) (Or.inl ⟨by rfl, ?_⟩) hHeld ?_
                  · (intro u _; go_simp)
                  (try simp only [Act.put, List.setIfInBounds_toArray, List.set_cons_zero, List.set_cons_succ])
                  refine L4.late_free 22 (v := .int .i64 ((i : Nat) : Int)) rfl (by kernel_rfl) (by kernel_rfl) (by kernel_rfl) (by kernel_rfl) (by kernel_rfl) (by kernel_rfl) (fun _ _ _ h => h) (Or.inl ⟨by rfl, ?_⟩) hHeld ?_
                  · (intro u _; go_simp)
                  (try simp only [Act.put, List.setIfInBounds_toArray, List.set_cons_zero, List.set_cons_succ])
                  refine L4.late_free 23 (v := .int .i64 ((j2 : Nat) : Int)) rfl (by kernel_rfl) (by kernel_rfl) (by kernel_rfl) (by kernel_rfl) (by kernel_rfl) (by kernel_rfl) (fun _ _ _ h => h) (Or.inl ⟨by rfl, ?_⟩) hHeld ?_
                  · (intro u _; go_simp)
                  (try simp only [Act.put, List.setIfInBounds_toArray, List.set_cons_zero, List.set_cons_succ])
                  refine L4.late_free 24 (v := .pointer (some ⟨gt, j2, none⟩)) rfl (by kernel_rfl) (by kernel_rfl) (by kernel_rfl) (by kernel_rfl) (by kernel_rfl) (by kernel_rfl) (fun _ _ _ h => h) (Or.inl ⟨by rfl, ?_⟩) hHeld ?_
                  · (intro u _; go_simp)
                  (try simp only [Act.put, List.setIfInBounds_toArray, List.set_cons_zero, List.set_cons_succ])
                  refine L4.late_take 25 (v := .int .i64 ((k2 : Nat) : Int)) rfl (by kernel_rfl) (List.Mem.tail _ (List.Mem.tail _ (List.Mem.tail _ (List.Mem.tail _ (List.Mem.tail _ (List.Mem.head _)))))) (by kernel_rfl) (by kernel_rfl) (by kernel_rfl) (by kernel_rfl) (fun _ _ _ h => h) (Or.inl ⟨by rfl, ?_⟩) hHeld ?_
                  · (intro u hu; (try dsimp only at hu); go_split_ands; go_simp)
                  (try simp only [Act.put, List.setIfInBounds_toArray, List.set_cons_zero, List.set_cons_succ])
                  refine L4.late_step 26 (by kernel_rfl) rfl (fun K hK => ?_)
                  go_simp
                  refine (CH2.out _ B).mono ?_
                  rintro e y13 ⟨rfl, hy13⟩
                  have c13 : Below y12.heap.size y12 y13 := by rw [hy13]; exact Below.refl _ _
                  clear hy13
                  have B := B.trans (c13.mono B.size)
                  clear c13 hHeld
                  have hHeld := KEEP _ B
                  go_wp2_with fail
                  refine hK.out _ _ (L4.AllL.kept hHeld) ?_
                  clear hK K
                  (try simp only [Act.put, List.setIfInBounds_toArray, List.set_cons_zero, List.set_cons_succ])
                  refine L4.late_free 27 (v := .bool false) rfl (by kernel_rfl) (by kernel_rfl) (by kernel_rfl) (by kernel_rfl) (by kernel_rfl) (by kernel_rfl) (fun _ _ _ h => h) (Or.inl ⟨by rfl, ?_⟩) hHeld ?_
                  · (intro u _; go_simp)
                  (try simp only [Act.put, List.setIfInBounds_toArray, List.set_cons_zero, List.set_cons_succ])
                  refine L4.late_step 28 (by kernel_rfl) rfl (fun K hK => ?_)
                  go_simp
                  refine hK.out _ _ (L4.AllL.kept hHeld) ?_
                  clear hK K
                  (try simp only [Act.put, List.setIfInBounds_toArray, List.set_cons_zero, List.set_cons_succ])
                  refine L4.late_done (by kernel_rfl) ?_ _
                  clear hHeld KEEP
                  obtain ⟨wq, rfl⟩ : ∃ W, W = y13 := ⟨_, rfl⟩
                  have HBQ : Hid (Below wr.heap.size wr wq) := B
                  clear B
                  clear CH2
                case' neg =>
                  have CH1 : Hid (∀ W, Below wr.heap.size wr W → Calls Tryz.prog 27 #[.slice xo xn xc, .int .i64 ((k0 : Nat) : Int)] W fun e w' => e = .returned (.bool false) ∧ w' = W) := fun W hW => HHS.out W _ false hW (decide_eq_false hc)
                  clear hm hopn HHS hc
                  go_upto_region 30 with fail
                  have KEEP : ∀ u, Below wr.heap.size wr u → L4.AllL u [(4, fun w' => w'.cell? ⟨gt, i, none⟩ = some (.int .i64 ((k : Nat) : Int))), (6, fun w' => w'.cell? ⟨gp, op + k, none⟩ = some (.slice xo xn xc)), (11, fun w' => w'.cell? ⟨gt, j0, none⟩ = some (.int .i64 ((k0 : Nat) : Int))), (18, fun w' => True), (20, fun w' => True), (25, fun w' => True)] := fun u hu => ⟨keepR hu hx2, keepR hu hr2, keepR hu hx0, trivial, trivial, trivial, trivial⟩
                  refine L4.region_late [(4, fun w' => w'.cell? ⟨gt, i, none⟩ = some (.int .i64 ((k : Nat) : Int))), (6, fun w' => w'.cell? ⟨gp, op + k, none⟩ = some (.slice xo xn xc)), (11, fun w' => w'.cell? ⟨gt, j0, none⟩ = some (.int .i64 ((k0 : Nat) : Int))), (18, fun w' => True), (20, fun w' => True), (25, fun w' => True)] (by kernel_rfl) ?_
                  have B : Below wr.heap.size wr wr.drew := (Below.refl _ _).drew
                  obtain ⟨w14, hw14⟩ : ∃ u, u = wr.drew := ⟨_, rfl⟩
                  rw [← hw14] at B ⊢
                  clear hw14
                  have hHeld := KEEP _ B
                  refine L4.late_free 0 (v := .slice (some ⟨gp, op, none⟩) pn pc) rfl (by kernel_rfl) (by kernel_rfl) (by kernel_rfl) (by kernel_rfl) (by kernel_rfl) (by kernel_rfl) (fun _ _ _ h => h) (Or.inl ⟨by rfl, ?_⟩) hHeld ?_
                  · (intro u _; go_simp)
                  (try simp only [Act.put, List.setIfInBounds_toArray, List.set_cons_zero, List.set_cons_succ])
                  refine L4.late_free 1 (v := .slice (some ⟨gt, 0, none⟩) tn tc) rfl (by kernel_rfl) (by kernel_rfl) (by kernel_rfl) (by kernel_rfl) (by kernel_rfl) (by kernel_rfl) (fun _ _ _ h => h) (Or.inl ⟨by rfl, ?_⟩) hHeld ?_
                  · (intro u _; go_simp)
                  (try simp only [Act.put, List.setIfInBounds_toArray, List.set_cons_zero, List.set_cons_succ])
                  refine L4.late_free 2 (v := .int .i64 ((i : Nat) : Int)) rfl (by kernel_rfl) (by kernel_rfl) (by kernel_rfl) (by kernel_rfl) (by kernel_rfl) (by kernel_rfl) (fun _ _ _ h => h) (Or.inl ⟨by rfl, ?_⟩) hHeld ?_
                  · (intro u _; go_simp)
                  (try simp only [Act.put, List.setIfInBounds_toArray, List.set_cons_zero, List.set_cons_succ])
                  refine L4.late_free 3 (v := .pointer (some ⟨gt, i, none⟩)) rfl (by kernel_rfl) (by kernel_rfl) (by kernel_rfl) (by kernel_rfl) (by kernel_rfl) (by kernel_rfl) (fun _ _ _ h => h) (Or.inl ⟨by rfl, ?_⟩) hHeld ?_
                  · (intro u _; go_simp)
                  (try simp only [Act.put, List.setIfInBounds_toArray, List.set_cons_zero, List.set_cons_succ])
                  refine L4.late_take 4 (v := .int .i64 ((k : Nat) : Int)) rfl (by kernel_rfl) (List.Mem.head _) (by kernel_rfl) (by kernel_rfl) (by kernel_rfl) (by kernel_rfl) (fun _ _ _ h => h) (Or.inl ⟨by rfl, ?_⟩) hHeld ?_
                  · (intro u hu; (try dsimp only at hu); go_split_ands; go_simp)
                  (try simp only [Act.put, List.setIfInBounds_toArray, List.set_cons_zero, List.set_cons_succ])
                  refine L4.late_free 5 (v := .pointer (some ⟨gp, op + k, none⟩)) rfl (by kernel_rfl) (by kernel_rfl) (by kernel_rfl) (by kernel_rfl) (by kernel_rfl) (by kernel_rfl) (fun _ _ _ h => h) (Or.inl ⟨by rfl, ?_⟩) hHeld ?_
                  · (intro u _; go_simp)
                  (try simp only [Act.put, List.setIfInBounds_toArray, List.set_cons_zero, List.set_cons_succ])
                  refine L4.late_take 6 (v := .slice xo xn xc) rfl (by kernel_rfl) (List.Mem.tail _ (List.Mem.head _)) (by kernel_rfl) (by kernel_rfl) (by kernel_rfl) (by kernel_rfl) (fun _ _ _ h => h) (Or.inl ⟨by rfl, ?_⟩) hHeld ?_
                  · (intro u hu; (try dsimp only at hu); go_split_ands; go_simp)
                  (try simp only [Act.put, List.setIfInBounds_toArray, List.set_cons_zero, List.set_cons_succ])
                  refine L4.late_free 7 (v := .slice (some ⟨gt, 0, none⟩) tn tc) rfl (by kernel_rfl) (by kernel_rfl) (by kernel_rfl) (by kernel_rfl) (by kernel_rfl) (by kernel_rfl) (fun _ _ _ h => h) (Or.inl ⟨by rfl, ?_⟩) hHeld ?_
                  · (intro u _; go_simp)
                  (try simp only [Act.put, List.setIfInBounds_toArray, List.set_cons_zero, List.set_cons_succ])
                  refine L4.late_free 8 (v := .int .i64 ((i : Nat) : Int)) rfl (by kernel_rfl) (by kernel_rfl) (by kernel_rfl) (by kernel_rfl) (by kernel_rfl) (by kernel_rfl) (fun _ _ _ h => h) (Or.inl ⟨by rfl, ?_⟩) hHeld ?_
                  · (intro u _; go_simp)
                  (try simp only [Act.put, List.setIfInBounds_toArray, List.set_cons_zero, List.set_cons_succ])
                  refine L4.late_free 9 (v := .int .i64 ((j0 : Nat) : Int)) rfl (by kernel_rfl) (by kernel_rfl) (by kernel_rfl) (by kernel_rfl) (by kernel_rfl) (by kernel_rfl) (fun _ _ _ h => h) (Or.inl ⟨by rfl, ?_⟩) hHeld ?_
                  · (intro u _; go_simp)
                  (try simp only [Act.put, List.setIfInBounds_toArray, List.set_cons_zero, List.set_cons_succ])
                  refine L4.late_free 10 (v := .pointer (some ⟨gt, j0, none⟩)) rfl (by kernel_rfl) (by kernel_rfl) (by kernel_rfl) (by kernel_rfl) (by kernel_rfl) (by kernel_rfl) (fun _ _ _ h => h) (Or.inl ⟨by rfl, ?_⟩) hHeld ?_
                  · (intro u _; go_simp)
                  (try simp only [Act.put, List.setIfInBounds_toArray, List.set_cons_zero, List.set_cons_succ])
                  refine L4.late_take 11 (v := .int .i64 ((k0 : Nat) : Int)) rfl (by kernel_rfl) (List.Mem.tail _ (List.Mem.tail _ (List.Mem.head _))) (by kernel_rfl) (by kernel_rfl) (by kernel_rfl) (by kernel_rfl) (fun _ _ _ h => h) (Or.inl ⟨by rfl, ?_⟩) hHeld ?_
                  · (intro u hu; (try dsimp only at hu); go_split_ands; go_simp)
                  (try simp only [Act.put, List.setIfInBounds_toArray, List.set_cons_zero, List.set_cons_succ])
                  refine L4.late_step 12 (by kernel_rfl) rfl (fun K hK => ?_)
                  go_simp
                  refine (CH1.out _ B).mono ?_
                  rintro e y15 ⟨rfl, hy15⟩
                  have c15 : Below w14.heap.size w14 y15 := by rw [hy15]; exact Below.refl _ _
                  clear hy15
                  have B := B.trans (c15.mono B.size)
                  clear c15 hHeld
                  have hHeld := KEEP _ B
                  go_wp2_with fail
                  refine hK.out _ _ (L4.AllL.kept hHeld) ?_
                  clear hK K
                  (try simp only [Act.put, List.setIfInBounds_toArray, List.set_cons_zero, List.set_cons_succ])
                  refine L4.late_free 13 (v := .bool false) rfl (by kernel_rfl) (by kernel_rfl) (by kernel_rfl) (by kernel_rfl) (by kernel_rfl) (by kernel_rfl) (fun _ _ _ h => h) (Or.inl ⟨by rfl, ?_⟩) hHeld ?_
                  · (intro u _; go_simp)
                  (try simp only [Act.put, List.setIfInBounds_toArray, List.set_cons_zero, List.set_cons_succ])
                  refine L4.late_free 14 (v := undef) rfl (by kernel_rfl) (by kernel_rfl) (by kernel_rfl) (by kernel_rfl) (by kernel_rfl) (by kernel_rfl) (fun _ _ _ h => h) (Or.inr ⟨by rfl, rfl⟩) hHeld ?_
                  (try simp only [Act.put, List.setIfInBounds_toArray, List.set_cons_zero, List.set_cons_succ])
                  refine L4.late_free 15 (v := undef) rfl (by kernel_rfl) (by kernel_rfl) (by kernel_rfl) (by kernel_rfl) (by kernel_rfl) (by kernel_rfl) (fun _ _ _ h => h) (Or.inr ⟨by rfl, rfl⟩) hHeld ?_
                  (try simp only [Act.put, List.setIfInBounds_toArray, List.set_cons_zero, List.set_cons_succ])
                  refine L4.late_free 16 (v := undef) rfl (by kernel_rfl) (by kernel_rfl) (by kernel_rfl) (by kernel_rfl) (by kernel_rfl) (by kernel_rfl) (fun _ _ _ h => h) (Or.inr ⟨by rfl, rfl⟩) hHeld ?_
                  (try simp only [Act.put, List.setIfInBounds_toArray, List.set_cons_zero, List.set_cons_succ])
                  refine L4.late_free 17 (v := undef) rfl (by kernel_rfl) (by kernel_rfl) (by kernel_rfl) (by kernel_rfl) (by kernel_rfl) (by kernel_rfl) (fun _ _ _ h => h) (Or.inr ⟨by rfl, rfl⟩) hHeld ?_
                  (try simp only [Act.put, List.setIfInBounds_toArray, List.set_cons_zero, List.set_cons_succ])
                  refine L4.late_take 18 (v := undef) rfl (by kernel_rfl) (List.Mem.tail _ (List.Mem.tail _ (List.Mem.tail _ (List.Mem.head _)))) (by kernel_rfl) (by kernel_rfl) (by kernel_rfl) (by kernel_rfl) (fun _ _ _ h => h) (Or.inr ⟨by rfl, rfl⟩) hHeld ?_
                  (try simp only [Act.put, List.setIfInBounds_toArray, List.set_cons_zero, List.set_cons_succ])
                  refine L4.late_free 19 (v := undef) rfl (by kernel_rfl) (by kernel_rfl) (by kernel_rfl) (by kernel_rfl) (by kernel_rfl) (by kernel_rfl) (fun _ _ _ h => h) (Or.inr ⟨by rfl, rfl⟩) hHeld ?_
                  (try simp only [Act.put, List.setIfInBounds_toArray, List.set_cons_zero, List.set_cons_succ])
                  refine L4.late_take 20 (v := undef) rfl (by kernel_rfl) (List.Mem.tail _ (List.Mem.tail _ (List.Mem.tail _ (List.Mem.tail _ (List.Mem.head _))))) (by kernel_rfl) (by kernel_rfl) (by kernel_rfl) (by kernel_rfl) (fun _ _ _ h => h) (Or.inr ⟨by rfl, rfl⟩) hHeld ?_
                  (try simp only [Act.put, List.setIfInBounds_toArray, List.set_cons_zero, List.set_cons_succ])
                  refine L4.late_free 21 (v := undef) rfl (by kernel_rfl) (by kernel_rfl) (by kernel_rfl) (by kernel_rfl) (by kernel_rfl) (by kernel_rfl) (fun _ _ _ h => h) (Or.inr ⟨by rfl, rfl⟩) hHeld ?_
                  (try simp only [Act.put, List.setIfInBounds_toArray, List.set_cons_zero, List.set_cons_succ])
                  refine L4.late_free 22 (v := undef) rfl (by kernel_rfl) (by kernel_rfl) (by kernel_rfl) (by kernel_rfl) (by kernel_rfl) (by kernel_rfl) (fun _ _ _ h => h) (Or.inr ⟨by rfl, rfl⟩) hHeld ?_
                  (try simp only [Act.put, List.setIfInBounds_toArray, List.set_cons_zero, List.set_cons_succ])
                  refine L4.late_free 23 (v := undef) rfl (by kernel_rfl) (by kernel_rfl) (by kernel_rfl) (by kernel_rfl) (by kernel_rfl) (by kernel_rfl) (fun _ _ _ h => h) (Or.inr ⟨by rfl, rfl⟩) hHeld ?_
                  (try simp only [Act.put, List.setIfInBounds_toArray, List.set_cons_zero, List.set_cons_succ])
                  refine L4.late_free 24 (v := undef) rfl (by kernel_rfl) (by kernel_rfl) (by kernel_rfl) (by kernel_rfl) (by kernel_rfl) (by kernel_rfl) (fun _ _ _ h => h) (Or.inr ⟨by rfl, rfl⟩) hHeld ?_
                  (try simp only [Act.put, List.setIfInBounds_toArray, List.set_cons_zero, List.set_cons_succ])
                  refine L4.late_take 25 (v := undef) rfl (by kernel_rfl) (List.Mem.tail _ (List.Mem.tail _ (List.Mem.tail _ (List.Mem.tail _ (List.Mem.tail _ (List.Mem.head _)))))) (by kernel_rfl) (by kernel_rfl) (by kernel_rfl) (by kernel_rfl) (fun _ _ _ h => h) (Or.inr ⟨by rfl, rfl⟩) hHeld ?_
                  (try simp only [Act.put, List.setIfInBounds_toArray, List.set_cons_zero, List.set_cons_succ])
                  refine L4.late_step 26 (by kernel_rfl) rfl (fun K hK => ?_)
                  go_simp
                  refine hK.out _ _ (L4.AllL.kept hHeld) ?_
                  clear hK K
                  (try simp only [Act.put, List.setIfInBounds_toArray, List.set_cons_zero, List.set_cons_succ])
                  refine L4.late_free 27 (v := .bool false) rfl (by kernel_rfl) (by kernel_rfl) (by kernel_rfl) (by kernel_rfl) (by kernel_rfl) (by kernel_rfl) (fun _ _ _ h => h) (Or.inl ⟨by rfl, ?_⟩) hHeld ?_
                  · (intro u _; go_simp)
                  (try simp only [Act.put, List.setIfInBounds_toArray, List.set_cons_zero, List.set_cons_succ])
                  refine L4.late_step 28 (by kernel_rfl) rfl (fun K hK => ?_)
                  go_simp
                  refine hK.out _ _ (L4.AllL.kept hHeld) ?_
                  clear hK K
                  (try simp only [Act.put, List.setIfInBounds_toArray, List.set_cons_zero, List.set_cons_succ])
                  refine L4.late_done (by kernel_rfl) ?_ _
                  clear hHeld KEEP
                  obtain ⟨wq, rfl⟩ : ∃ W, W = y15 := ⟨_, rfl⟩
                  have HBQ : Hid (Below wr.heap.size wr wq) := B
                  clear B
                all_goals
                  clear hx2 hx0 hx4 hr2 CH1 hiw
                  have hx2 : wq.cell? ⟨gt, i, none⟩ = some (.int .i64 ((k : Nat) : Int)) := HX2.out wq HBQ.out
                  have HB2 : Hid (Below y7.heap.size y7 wq) := bstepB HB.out HBQ.out
                  have CHG : Hid _ := has16 (.slice qo qn qc) G (k : Int) wq (HQ5.out wq (bstepB B6.out (bstepB B7.out HB2.out)))
                  rw [decide_eq_false HKG.out] at CHG
                  clear HB HBQ
                  go_wp2_with fail
                  refine Calls.mono CHG.out ?_
                  rintro e yy ⟨rfl, hyy⟩
                  rw [hyy]
                  clear CHG hyy yy hx2
                  go_wp2
                  go_roundg (tn - (i + 1))
                  case measure => omega
                  case rel => exact ⟨j2, rfl, by have := HJ2.out; omega, by omega, by have := HJ2.out; omega, HB2⟩
            · have hltz : ¬ (j2 : Int) < (tn : Int) := by omega
              have HF : Hid (Below w.heap.size w wr) := bstepB B2.out (bstepB B5.out (bstepB B6.out (bstepB B7.out HB.out)))
              go_wp2
              go_ret
              exact ⟨rfl, HF.out⟩
end Go.Proofs.YtcoiapgfaibkgaaGreat
