/-
  Proved here: the law DagMirror returns true, whatever the parents and points, where each list is of at most 1048576 numbers.
-/
import Derived.Test.YtmgbhbdcnciccaaDagCyAAll
import Derived.Test.YtmgbhbdcnciccaaDagAl2
namespace Go.Proofs.Ytmgbhbdcnciccaa
set_option linter.unusedVariables false
open Go.RowKit
theorem ReE.yes {B : Nat} {C : List (List Int)} {n : Nat} {pts : List Int} {w' : World} {e : Ending} (h : ReE B C n pts w' e) (hno : noPts (n : Int) pts = false) : ∃ o nn c R, e = .returned (.tuple #[.slice o nn c, .int .i64 0]) ∧ OG (Value.int .i64) B 3 w' (.slice o nn c) R ∧ ∀ x, x ∈ R ↔ RchP C pts x := by
  rcases h with ⟨h, _⟩ | ⟨_, tv, R, h1, h2, h3, h4⟩
  · rw [hno] at h; exact absurd h (by simp)
  · obtain ⟨ao, cap, e1⟩ := h2.rg.sl
    exact ⟨ao, R.length, cap, R, by rw [h1, e1], by rw [← e1]; exact h2, h4⟩
theorem AbE.yes {B : Nat} {P C : List (List Int)} {n : Nat} {pts : List Int} {w' : World} {e : Ending} (h : AbE B P C n pts w' e) (hc : ckE P = 0) (hno : noPts (n : Int) pts = false) : ∃ o nn c R, e = .returned (.tuple #[.slice o nn c, .int .i64 0]) ∧ OG (Value.int .i64) B 3 w' (.slice o nn c) R ∧ ∀ x, x ∈ R ↔ RchP C pts x := by
  rcases h with ⟨h, _⟩ | ⟨_, h⟩
  · exact absurd hc h
  · exact h.yes hno
set_option maxRecDepth 100000 in
set_option maxHeartbeats 25600000 in
theorem dagMirror_top (pv qv : Value) (pvs : List Value) (P : List (List Int)) (pts : List Int) (w : World) (h : RRD w pv pvs P) (hbl : ∀ i, (P.getD i []).length ≤ 1048576) (hq : RG (Value.int .i64) w qv pts) (hql : pts.length ≤ 1048576) :
    Calls Try.prog 7 #[pv, qv] w fun e w' => e = .returned (.bool true) ∧ Below w.heap.size w w' := by
  have CA : Hid _ := aliveD w
  obtain ⟨po, pn, pc, rfl⟩ : ∃ o n c, pv = .slice o n c := by obtain ⟨ao, cap, e⟩ := h.out.sl; exact ⟨_, _, _, e⟩
  obtain ⟨qo, qn, qc, rfl⟩ : ∃ o n c, qv = .slice o n c := by obtain ⟨ao, cap, e⟩ := hq.sl; exact ⟨_, _, _, e⟩
  have hn : P.length = pn := by rw [← h.len, h.out.len]
  have hqn : pts.length = qn := hq.len
  rw [hqn] at hql
  have HR : Hid (∀ W, Below w.heap.size w W → RRD W (.slice po pn pc) pvs P) := fun W hW => h.below (Nat.le_refl _) hW
  have HQ : Hid (∀ W, Below w.heap.size w W → RG (Value.int .i64) W (.slice qo qn qc) pts) := fun W hW => hq.below (Nat.le_refl _) hW
  have HQN : Hid (pts.length = qn) := hqn
  have HN : Hid (P.length = pn) := hn
  have HBL0 : Hid (∀ i, (P.getD i []).length ≤ 1048576) := hbl
  clear h hn hbl hq hqn
  go_enter Try.func7, Try.ntmps7
  go_wp2_with fail
  refine Calls.mono CA.out ?_
  clear CA
  rintro e w1 ⟨rfl, hw1⟩
  have HB1 : Hid (Below w.heap.size w w1) := hw1
  have CM : Hid _ := manyD _ pvs P w1 (HR.out w1 hw1) HBL0.out
  clear hw1
  go_wp2_with fail
  refine Calls.mono CM.out ?_
  clear CM
  rintro e y ⟨rfl, hy0⟩
  rw [hy0]
  clear hy0 y
  rcases hm : manyB P with _ | _
  case true =>
    clear hm
    go_wp2
    go_ret
    exact ⟨rfl, HB1.out⟩
  obtain ⟨hm1, hm2⟩ := many_noB hm
  rw [HN.out] at hm1
  have HBL : Hid (∀ i, (P.getD i []).length ≤ 100000) := fun i => by have := len_smB P i; omega
  have HSM : Hid (smL P P.length ≤ 2000) := hm2
  by_cases h40 : pn > 40
  · have h40z : (pn : Int) > 40 := by omega
    clear hm hm2
    go_wp2
    go_ret
    exact ⟨rfl, HB1.out⟩
  have h40z : ¬ (pn : Int) > 40 := by omega
  have CK : Hid _ := checkD _ pvs P w1 (HR.out w1 HB1.out) pn HN.out (by omega) HBL.out
  obtain ⟨c, hc⟩ : ∃ c, c = ckE P := ⟨_, rfl⟩
  have HC : Hid (ckE P = c) := hc.symm
  rw [← hc] at CK
  clear hm hm2 hc
  go_wp2_with fail
  refine Calls.mono CK.out ?_
  clear CK
  rintro e w2 ⟨rfl, hw2⟩
  have HB2 : Hid (Below w.heap.size w w2) := HB1.out.trans (hw2.mono HB1.out.size)
  clear hw2 HB1
  by_cases hc0 : c = 0
  · subst hc0
    have HWF : Hid (WfP P) := outs_no (cl_zero (ck_zero HC.out)).1
    have CCh : Hid _ := childrenD _ pvs P w2 (HR.out w2 HB2.out) pn HN.out (by omega) HBL.out
    go_wp2_with fail
    refine Calls.mono CCh.out ?_
    clear CCh
    rintro e w3 ⟨cv, rfl, hE, hw3⟩
    have HB3 : Hid (Below w.heap.size w w3) := HB2.out.trans (hw3.mono HB2.out.size)
    have CE : Hid _ := edgesD _ pvs P w3 (HR.out w3 HB3.out) pn HN.out (by omega) HBL.out (fun i hi => by
      have h1 := smL_mono (P := P) (show i ≤ P.length by rw [HN.out]; exact hi)
      have h2 := HSM.out
      rw [edF_lenB]; omega)
    rw [HC.out] at CE ⊢
    obtain ⟨gc, cvs, rfl, HCH⟩ : ∃ gc cvs, cv = .slice (some ⟨gc, 0, none⟩) pn pn ∧ Hid (RRD w3 (.slice (some ⟨gc, 0, none⟩) pn pn) cvs (chL P pn)) := by
      rcases hE with ⟨_, W, g, cvs, _, e, hT⟩ | ⟨h0, _⟩
      · exact ⟨g, cvs, e, hT.rrd⟩
      · exact absurd HC.out h0
    clear hE hw3 HB2
    go_wp2_with fail
    refine Calls.mono CE.out ?_
    clear CE
    rintro e w4 ⟨ev, rfl, hev, hw4⟩
    have HB4 : Hid (Below w.heap.size w w4) := HB3.out.trans (hw4.mono HB3.out.size)
    have HCH4 : Hid (∀ W, Below w4.heap.size w4 W → RRD W (.slice (some ⟨gc, 0, none⟩) pn pn) cvs (chL P pn)) := fun W hW => (HCH.out.below (Nat.le_refl _) hw4).below (Nat.le_refl _) hW
    obtain ⟨eo, en, ec, rfl, hen⟩ : ∃ o n c, ev = .slice o n c ∧ n = smL P pn := by
      have h1 : (edA P).length = smL P pn := by unfold edA; rw [if_pos HC.out, edF_lenB, HN.out]
      rcases hev.2 with ⟨e, h0⟩ | ⟨g, cap, cur, e, _⟩
      · exact ⟨none, 0, 0, e, by rw [← h1]; exact h0.symm⟩
      · exact ⟨_, _, _, e, h1⟩
    have HEN : Hid (en = smL P pn) := hen
    have hsm : smL P pn ≤ 2000 := by rw [← HN.out]; exact HSM.out
    clear hev hw4 HB3 HCH hen
    go_wp2
    go_loopg [10, 11, 12, 13, 14, 15, 16] pn (fun g1 v10 v11 _v12 _v13 _v14 _v15 _v16 wr => ∃ i : Nat, v11 = .int .i64 i ∧ v10 = .int .i64 ((smL P i : Nat) : Int) ∧ i ≤ pn ∧ pn - i ≤ g1 ∧ Hid (Below w4.heap.size w4 wr))
    case atStart => exact ⟨0, rfl, rfl, by omega, by omega, Below.refl _ _⟩
    case round =>
      obtain ⟨i, rfl, rfl, hin, hg1, HB⟩ := hrel
      by_cases hlt : i < pn
      · have hltz : (i : Int) < (pn : Int) := by omega
        have HBW : Hid (Below w.heap.size w wr) := HB4.out.trans (HB.out.mono HB4.out.size)
        obtain ⟨x, gp, op, hx1, rfl, hx2⟩ := (HR.out wr HBW.out).out.at hlt
        have hxr := (HR.out wr HBW.out).inn i x hx1
        obtain ⟨xo, xn, xc, rfl⟩ : ∃ o n c, x = .slice o n c := by obtain ⟨ao, cap, e⟩ := hxr.sl; exact ⟨_, _, _, e⟩
        change wr.cell? ⟨gp, op + i, none⟩ = some (.slice xo xn xc) at hx2
        have hxl : (P.getD i []).length = xn := hxr.len
        have HS1 : Hid (smL P (i + 1) = smL P i + xn) := by show _ = _; rw [← hxl]; rfl
        have hs2 : smL P (i + 1) ≤ 2000 := by have := smL_mono (P := P) (show i + 1 ≤ P.length by rw [HN.out]; exact hlt); have := HSM.out; omega
        rw [HS1.out] at hs2
        obtain ⟨s0, hs0⟩ : ∃ s0, s0 = smL P i := ⟨_, rfl⟩
        have HS0 : Hid (smL P i = s0) := hs0.symm
        rw [← hs0] at hs2 ⊢
        obtain ⟨WA, hWA⟩ : ∃ W, W = wr.alloc (.cells #[.int .i64 (i : Int)] 3) := ⟨_, rfl⟩
        have hqa : RG (Value.int .i64) WA (.slice (some ⟨wr.heap.size, 0, none⟩) 1 1) [(i : Int)] := by rw [hWA]; exact RG.lit wr 3 [(i : Int)] (by simp)
        have hba : Below wr.heap.size wr WA := by rw [hWA]; exact belowB _ _
        have HBA : Hid (Below wr.heap.size wr WA) := hba
        have CAb : Hid _ := aboveD _ _ pvs P [(i : Int)] WA (HR.out WA (HBW.out.trans (hba.mono HBW.out.size))) pn HN.out (by omega) HBL.out hqa (by simp)
        have HWA : Hid (WA = wr.alloc (.cells #[.int .i64 (i : Int)] 3)) := hWA
        clear hx1 hxr hxl hs0 hqa hba hWA
        go_wp2_with fail
        rw [← HWA.out]
        refine Calls.mono CAb.out ?_
        clear CAb HWA hx2
        rintro e wa ⟨hE, hwa⟩
        obtain ⟨ro, rn, rc, R, rfl, hR1, hR2⟩ := hE.yes HC.out (no_one (by omega))
        have HBa : Hid (Below wr.heap.size wr wa) := HBA.out.trans (hwa.mono HBA.out.size)
        have HRA : Hid (RG (Value.int .i64) wa (.slice ro rn rc) R) := hR1.rg
        have HRM : Hid (∀ x, x ∈ R ↔ RchP P [(i : Int)] x) := hR2
        have CI : Hid _ := inD _ R (i : Int) wa hR1.rg
        rw [decide_eq_true ((hR2 _).2 ⟨(i : Int), by simp, 0, rfl⟩)] at CI
        clear hE hR1 hR2 hwa HBA
        go_wp2_with fail
        refine Calls.mono CI.out ?_
        clear CI
        rintro e wi ⟨rfl, rfl⟩
        have HBi : Hid (Below w4.heap.size w4 wi) := HB.out.trans (HBa.out.mono HB.out.size)
        clear HB HBa HBW
        go_wp2
        go_loopg [14, 15, 16] pn (fun g2 v14 _v15 _v16 wq => ∃ k : Nat, v14 = .int .i64 k ∧ k ≤ pn ∧ pn - k ≤ g2 ∧ Hid (Below wi.heap.size wi wq))
        case atStart => exact ⟨0, rfl, by omega, by omega, Below.refl _ _⟩
        case round =>
          obtain ⟨k, rfl, hkn, hg2, HBk⟩ := hrel
          by_cases hlk : k < pn
          · have hlkz : (k : Int) < (pn : Int) := by omega
            have HBk4 : Hid (Below w4.heap.size w4 wr) := HBi.out.trans (HBk.out.mono HBi.out.size)
            have HBkw : Hid (Below w.heap.size w wr) := HB4.out.trans (HBk4.out.mono HB4.out.size)
            obtain ⟨WA, hWA⟩ : ∃ W, W = wr.alloc (.cells #[.int .i64 (k : Int)] 3) := ⟨_, rfl⟩
            have hqa : RG (Value.int .i64) WA (.slice (some ⟨wr.heap.size, 0, none⟩) 1 1) [(k : Int)] := by rw [hWA]; exact RG.lit wr 3 [(k : Int)] (by simp)
            have hba : Below wr.heap.size wr WA := by rw [hWA]; exact belowB _ _
            have HBA : Hid (Below wr.heap.size wr WA) := hba
            have CBe : Hid _ := belowD _ _ pvs P [(k : Int)] WA (HR.out WA (HBkw.out.trans (hba.mono HBkw.out.size))) pn HN.out (by omega) HBL.out hqa (by simp)
            have HWA : Hid (WA = wr.alloc (.cells #[.int .i64 (k : Int)] 3)) := hWA
            clear hqa hba hWA
            go_wp2_with fail
            rw [← HWA.out]
            refine Calls.mono CBe.out ?_
            clear CBe HWA
            rintro e wb ⟨hE, hwb⟩
            obtain ⟨bo, bn, bc, Rb, rfl, hRb1, hRb2⟩ := hE.yes HC.out (no_one (by omega))
            have HBb : Hid (Below wr.heap.size wr wb) := HBA.out.trans (hwb.mono HBA.out.size)
            have HBb2 : Hid (Below wi.heap.size wi wb) := HBk.out.trans (HBb.out.mono HBk.out.size)
            have HBb4 : Hid (Below w4.heap.size w4 wb) := HBi.out.trans (HBb2.out.mono HBi.out.size)
            have HBbw : Hid (Below w.heap.size w wb) := HB4.out.trans (HBb4.out.mono HB4.out.size)
            have HI1 : Hid (RG (Value.int .i64) wb (.slice ro rn rc) R) := HRA.out.below (Nat.le_refl _) HBb2.out
            have HI2 : Hid (RG (Value.int .i64) wb (.slice bo bn bc) Rb) := hRb1.rg
            obtain ⟨t1, ht1⟩ : ∃ t, t = decide ((k : Int) ∈ R) := ⟨_, rfl⟩
            obtain ⟨t2, ht2⟩ : ∃ t, t = decide ((k : Int) ∈ (chL P pn).getD i []) := ⟨_, rfl⟩
            have HT1 : Hid (decide ((k : Int) ∈ R) = t1) := ht1.symm
            have HT2 : Hid (decide ((i : Int) ∈ Rb) = t1) := by
              show _ = _
              rw [ht1, decide_eq_decide, hRb2, HRM.out]
              exact (mirror HN.out HWF.out hlt hlk).symm
            have HT3 : Hid (decide ((k : Int) ∈ (chL P pn).getD i []) = t2) := ht2.symm
            have HT4 : Hid (decide ((i : Int) ∈ P.getD k []) = t2) := by
              show _ = _
              rw [ht2, decide_eq_decide]
              exact (child_iff hlt hlk).symm
            obtain ⟨r, gr, orr, hr1, hr3, hr2⟩ := (HCH4.out wb HBb4.out).out.at hlt
            simp only [Option.some.injEq, Addr.mk.injEq, and_true] at hr3
            obtain ⟨rfl, rfl⟩ := hr3
            rw [Nat.zero_add] at hr2
            have hrr := (HCH4.out wb HBb4.out).inn i r hr1
            obtain ⟨so, sn, sc, rfl⟩ : ∃ o n c, r = .slice o n c := by obtain ⟨ao, cap, e⟩ := hrr.sl; exact ⟨_, _, _, e⟩
            change wb.cell? ⟨gc, i, none⟩ = some (.slice so sn sc) at hr2
            have HI3 : Hid (RG (Value.int .i64) wb (.slice so sn sc) ((chL P pn).getD i [])) := hrr
            obtain ⟨u, gu, ou, hu1, hu3, hu2⟩ := (HR.out wb HBbw.out).out.at hlk
            simp only [Option.some.injEq, Addr.mk.injEq, and_true] at hu3
            obtain ⟨rfl, rfl⟩ := hu3
            have hur := (HR.out wb HBbw.out).inn k u hu1
            obtain ⟨uo, un, uc, rfl⟩ : ∃ o n c, u = .slice o n c := by obtain ⟨ao, cap, e⟩ := hur.sl; exact ⟨_, _, _, e⟩
            change wb.cell? ⟨gp, op + k, none⟩ = some (.slice uo un uc) at hu2
            have HI4 : Hid (RG (Value.int .i64) wb (.slice uo un uc) (P.getD k [])) := hur
            clear hE hRb1 hRb2 hwb HBA ht1 ht2 hr1 hrr hu1 hur HBb HBk4 HBkw
            go_upto_region 20 with fail
            have KEEP : ∀ u, Below wb.heap.size wb u → L4.AllL u [(15, fun w' => w'.cell? ⟨gc, i, none⟩ = some (.slice so sn sc)), (21, fun w' => w'.cell? ⟨gp, op + k, none⟩ = some (.slice uo un uc))] := fun u hu => ⟨keepR hu hr2, keepR hu hu2, trivial⟩
            refine L4.region_late [(15, fun w' => w'.cell? ⟨gc, i, none⟩ = some (.slice so sn sc)), (21, fun w' => w'.cell? ⟨gp, op + k, none⟩ = some (.slice uo un uc))] (by kernel_rfl) ?_
            have B : Below wb.heap.size wb wb.drew := (Below.refl _ _).drew
            obtain ⟨w1, hw1⟩ : ∃ u, u = wb.drew := ⟨_, rfl⟩
            rw [← hw1] at B ⊢
            clear hw1
            have hHeld := KEEP _ B
            refine L4.late_free 0 (v := .int .i64 0) rfl (by kernel_rfl) (by kernel_rfl) (by kernel_rfl) (by kernel_rfl) (by kernel_rfl) (by kernel_rfl) (fun _ _ _ h => h) (Or.inl ⟨by rfl, ?_⟩) hHeld ?_
            · (intro u _; go_simp)
            (try simp only [Act.put, List.setIfInBounds_toArray, List.set_cons_zero, List.set_cons_succ])
            refine L4.late_free 1 (v := .bool false) rfl (by kernel_rfl) (by kernel_rfl) (by kernel_rfl) (by kernel_rfl) (by kernel_rfl) (by kernel_rfl) (fun _ _ _ h => h) (Or.inl ⟨by rfl, ?_⟩) hHeld ?_
            · (intro u _; go_simp)
            (try simp only [Act.put, List.setIfInBounds_toArray, List.set_cons_zero, List.set_cons_succ])
            refine L4.late_free 2 (v := .bool false) rfl (by kernel_rfl) (by kernel_rfl) (by kernel_rfl) (by kernel_rfl) (by kernel_rfl) (by kernel_rfl) (fun _ _ _ h => h) (Or.inl ⟨by rfl, ?_⟩) hHeld ?_
            · (intro u _; go_simp)
            (try simp only [Act.put, List.setIfInBounds_toArray, List.set_cons_zero, List.set_cons_succ])
            refine L4.late_free 3 (v := .slice ro rn rc) rfl (by kernel_rfl) (by kernel_rfl) (by kernel_rfl) (by kernel_rfl) (by kernel_rfl) (by kernel_rfl) (fun _ _ _ h => h) (Or.inl ⟨by rfl, ?_⟩) hHeld ?_
            · (intro u _; go_simp)
            (try simp only [Act.put, List.setIfInBounds_toArray, List.set_cons_zero, List.set_cons_succ])
            refine L4.late_free 4 (v := .int .i64 ((k : Nat) : Int)) rfl (by kernel_rfl) (by kernel_rfl) (by kernel_rfl) (by kernel_rfl) (by kernel_rfl) (by kernel_rfl) (fun _ _ _ h => h) (Or.inl ⟨by rfl, ?_⟩) hHeld ?_
            · (intro u _; go_simp)
            (try simp only [Act.put, List.setIfInBounds_toArray, List.set_cons_zero, List.set_cons_succ])
            refine L4.late_free 6 (v := .slice bo bn bc) rfl (by kernel_rfl) (by kernel_rfl) (by kernel_rfl) (by kernel_rfl) (by kernel_rfl) (by kernel_rfl) (fun _ _ _ h => h) (Or.inl ⟨by rfl, ?_⟩) hHeld ?_
            · (intro u _; go_simp)
            (try simp only [Act.put, List.setIfInBounds_toArray, List.set_cons_zero, List.set_cons_succ])
            refine L4.late_free 7 (v := .int .i64 ((i : Nat) : Int)) rfl (by kernel_rfl) (by kernel_rfl) (by kernel_rfl) (by kernel_rfl) (by kernel_rfl) (by kernel_rfl) (fun _ _ _ h => h) (Or.inl ⟨by rfl, ?_⟩) hHeld ?_
            · (intro u _; go_simp)
            (try simp only [Act.put, List.setIfInBounds_toArray, List.set_cons_zero, List.set_cons_succ])
            refine L4.late_step 5 (by kernel_rfl) rfl (fun K hK => ?_)
            go_simp
            refine (inD _ R (k : Int) _ (HI1.out.below (Nat.le_refl _) B)).mono ?_
            rintro e y2 ⟨rfl, hy2⟩
            rw [HT1.out]
            have c2 : Below w1.heap.size w1 y2 := by rw [hy2]; exact Below.refl _ _
            clear hy2
            have B := B.trans (c2.mono B.size)
            clear c2 hHeld
            have hHeld := KEEP _ B
            go_wp2_with fail
            refine hK.out _ _ (L4.AllL.kept hHeld) ?_
            clear hK K
            (try simp only [Act.put, List.setIfInBounds_toArray, List.set_cons_zero, List.set_cons_succ])
            refine L4.late_step 8 (by kernel_rfl) rfl (fun K hK => ?_)
            go_simp
            refine (inD _ Rb (i : Int) _ (HI2.out.below (Nat.le_refl _) B)).mono ?_
            rintro e y3 ⟨rfl, hy3⟩
            rw [HT2.out]
            have c3 : Below y2.heap.size y2 y3 := by rw [hy3]; exact Below.refl _ _
            clear hy3
            have B := B.trans (c3.mono B.size)
            clear c3 hHeld
            have hHeld := KEEP _ B
            go_wp2_with fail
            refine hK.out _ _ (L4.AllL.kept hHeld) ?_
            clear hK K
            (try simp only [Act.put, List.setIfInBounds_toArray, List.set_cons_zero, List.set_cons_succ])
            refine L4.late_free 9 (v := .bool false) rfl (by kernel_rfl) (by kernel_rfl) (by kernel_rfl) (by kernel_rfl) (by kernel_rfl) (by kernel_rfl) (fun _ _ _ h => h) (Or.inl ⟨by rfl, ?_⟩) hHeld ?_
            · (intro u _; go_simp)
            (try simp only [Act.put, List.setIfInBounds_toArray, List.set_cons_zero, List.set_cons_succ])
            refine L4.late_free 10 (v := .bool false) rfl (by kernel_rfl) (by kernel_rfl) (by kernel_rfl) (by kernel_rfl) (by kernel_rfl) (by kernel_rfl) (fun _ _ _ h => h) (Or.inl ⟨by rfl, ?_⟩) hHeld ?_
            · (intro u _; go_simp)
            (try simp only [Act.put, List.setIfInBounds_toArray, List.set_cons_zero, List.set_cons_succ])
            refine L4.late_free 11 (v := .bool false) rfl (by kernel_rfl) (by kernel_rfl) (by kernel_rfl) (by kernel_rfl) (by kernel_rfl) (by kernel_rfl) (fun _ _ _ h => h) (Or.inl ⟨by rfl, ?_⟩) hHeld ?_
            · (intro u _; go_simp)
            (try simp only [Act.put, List.setIfInBounds_toArray, List.set_cons_zero, List.set_cons_succ])
            refine L4.late_free 12 (v := .slice (some ⟨gc, 0, none⟩) pn pn) rfl (by kernel_rfl) (by kernel_rfl) (by kernel_rfl) (by kernel_rfl) (by kernel_rfl) (by kernel_rfl) (fun _ _ _ h => h) (Or.inl ⟨by rfl, ?_⟩) hHeld ?_
            · (intro u _; go_simp)
            (try simp only [Act.put, List.setIfInBounds_toArray, List.set_cons_zero, List.set_cons_succ])
            refine L4.late_free 13 (v := .int .i64 ((i : Nat) : Int)) rfl (by kernel_rfl) (by kernel_rfl) (by kernel_rfl) (by kernel_rfl) (by kernel_rfl) (by kernel_rfl) (fun _ _ _ h => h) (Or.inl ⟨by rfl, ?_⟩) hHeld ?_
            · (intro u _; go_simp)
            (try simp only [Act.put, List.setIfInBounds_toArray, List.set_cons_zero, List.set_cons_succ])
            refine L4.late_free 14 (v := .pointer (some ⟨gc, i, none⟩)) rfl (by kernel_rfl) (by kernel_rfl) (by kernel_rfl) (by kernel_rfl) (by kernel_rfl) (by kernel_rfl) (fun _ _ _ h => h) (Or.inl ⟨by rfl, ?_⟩) hHeld ?_
            · (intro u _; go_simp)
            (try simp only [Act.put, List.setIfInBounds_toArray, List.set_cons_zero, List.set_cons_succ])
            refine L4.late_take 15 (v := .slice so sn sc) rfl (by kernel_rfl) (List.Mem.head _) (by kernel_rfl) (by kernel_rfl) (by kernel_rfl) (by kernel_rfl) (fun _ _ _ h => h) (Or.inl ⟨by rfl, ?_⟩) hHeld ?_
            · (intro u hu; (try dsimp only at hu); go_split_ands; go_simp)
            (try simp only [Act.put, List.setIfInBounds_toArray, List.set_cons_zero, List.set_cons_succ])
            refine L4.late_free 16 (v := .int .i64 ((k : Nat) : Int)) rfl (by kernel_rfl) (by kernel_rfl) (by kernel_rfl) (by kernel_rfl) (by kernel_rfl) (by kernel_rfl) (fun _ _ _ h => h) (Or.inl ⟨by rfl, ?_⟩) hHeld ?_
            · (intro u _; go_simp)
            (try simp only [Act.put, List.setIfInBounds_toArray, List.set_cons_zero, List.set_cons_succ])
            refine L4.late_free 18 (v := .slice (some ⟨gp, op, none⟩) pn pc) rfl (by kernel_rfl) (by kernel_rfl) (by kernel_rfl) (by kernel_rfl) (by kernel_rfl) (by kernel_rfl) (fun _ _ _ h => h) (Or.inl ⟨by rfl, ?_⟩) hHeld ?_
            · (intro u _; go_simp)
            (try simp only [Act.put, List.setIfInBounds_toArray, List.set_cons_zero, List.set_cons_succ])
            refine L4.late_free 19 (v := .int .i64 ((k : Nat) : Int)) rfl (by kernel_rfl) (by kernel_rfl) (by kernel_rfl) (by kernel_rfl) (by kernel_rfl) (by kernel_rfl) (fun _ _ _ h => h) (Or.inl ⟨by rfl, ?_⟩) hHeld ?_
            · (intro u _; go_simp)
            (try simp only [Act.put, List.setIfInBounds_toArray, List.set_cons_zero, List.set_cons_succ])
            refine L4.late_free 20 (v := .pointer (some ⟨gp, op + k, none⟩)) rfl (by kernel_rfl) (by kernel_rfl) (by kernel_rfl) (by kernel_rfl) (by kernel_rfl) (by kernel_rfl) (fun _ _ _ h => h) (Or.inl ⟨by rfl, ?_⟩) hHeld ?_
            · (intro u _; go_simp)
            (try simp only [Act.put, List.setIfInBounds_toArray, List.set_cons_zero, List.set_cons_succ])
            refine L4.late_take 21 (v := .slice uo un uc) rfl (by kernel_rfl) (List.Mem.tail _ (List.Mem.head _)) (by kernel_rfl) (by kernel_rfl) (by kernel_rfl) (by kernel_rfl) (fun _ _ _ h => h) (Or.inl ⟨by rfl, ?_⟩) hHeld ?_
            · (intro u hu; (try dsimp only at hu); go_split_ands; go_simp)
            (try simp only [Act.put, List.setIfInBounds_toArray, List.set_cons_zero, List.set_cons_succ])
            refine L4.late_free 22 (v := .int .i64 ((i : Nat) : Int)) rfl (by kernel_rfl) (by kernel_rfl) (by kernel_rfl) (by kernel_rfl) (by kernel_rfl) (by kernel_rfl) (fun _ _ _ h => h) (Or.inl ⟨by rfl, ?_⟩) hHeld ?_
            · (intro u _; go_simp)
            (try simp only [Act.put, List.setIfInBounds_toArray, List.set_cons_zero, List.set_cons_succ])
            refine L4.late_step 17 (by kernel_rfl) rfl (fun K hK => ?_)
            go_simp
            refine (inD _ ((chL P pn).getD i []) (k : Int) _ (HI3.out.below (Nat.le_refl _) B)).mono ?_
            rintro e y4 ⟨rfl, hy4⟩
            rw [HT3.out]
            have c4 : Below y3.heap.size y3 y4 := by rw [hy4]; exact Below.refl _ _
            clear hy4
            have B := B.trans (c4.mono B.size)
            clear c4 hHeld
            have hHeld := KEEP _ B
            go_wp2_with fail
            refine hK.out _ _ (L4.AllL.kept hHeld) ?_
            clear hK K
            (try simp only [Act.put, List.setIfInBounds_toArray, List.set_cons_zero, List.set_cons_succ])
            refine L4.late_step 23 (by kernel_rfl) rfl (fun K hK => ?_)
            go_simp
            refine (inD _ (P.getD k []) (i : Int) _ (HI4.out.below (Nat.le_refl _) B)).mono ?_
            rintro e y5 ⟨rfl, hy5⟩
            rw [HT4.out]
            have c5 : Below y4.heap.size y4 y5 := by rw [hy5]; exact Below.refl _ _
            clear hy5
            have B := B.trans (c5.mono B.size)
            clear c5 hHeld
            have hHeld := KEEP _ B
            go_wp2_with fail
            refine hK.out _ _ (L4.AllL.kept hHeld) ?_
            clear hK K
            (try simp only [Act.put, List.setIfInBounds_toArray, List.set_cons_zero, List.set_cons_succ])
            refine L4.late_free 24 (v := .bool false) rfl (by kernel_rfl) (by kernel_rfl) (by kernel_rfl) (by kernel_rfl) (by kernel_rfl) (by kernel_rfl) (fun _ _ _ h => h) (Or.inl ⟨by rfl, ?_⟩) hHeld ?_
            · (intro u _; go_simp)
            (try simp only [Act.put, List.setIfInBounds_toArray, List.set_cons_zero, List.set_cons_succ])
            refine L4.late_free 25 (v := .bool false) rfl (by kernel_rfl) (by kernel_rfl) (by kernel_rfl) (by kernel_rfl) (by kernel_rfl) (by kernel_rfl) (fun _ _ _ h => h) (Or.inl ⟨by rfl, ?_⟩) hHeld ?_
            · (intro u _; go_simp)
            (try simp only [Act.put, List.setIfInBounds_toArray, List.set_cons_zero, List.set_cons_succ])
            refine L4.late_done (by kernel_rfl) ?_ _
            clear hHeld KEEP
            have HB9 : Hid (Below wi.heap.size wi y5) := HBb2.out.trans (B.mono HBb2.out.size)
            clear B HBb2 HBb4 HBbw HI1 HI2 HI3 HI4 HT1 HT2 HT3 HT4 hr2 hu2
            go_wp2
            go_roundg (pn - (k + 1))
            case measure => omega
            case rel => exact ⟨k + 1, by first | rfl | go_num, by omega, Nat.le_refl _, HB9⟩
          · have hlkz : ¬ (k : Int) < (pn : Int) := by omega
            have HBe : Hid (Below w4.heap.size w4 wr) := HBi.out.trans (HBk.out.mono HBi.out.size)
            have hsn : ((s0 : Nat) : Int) + (xn : Int) = ((smL P (i + 1) : Nat) : Int) := by rw [HS1.out, HS0.out]; omega
            clear HBk
            go_wp2
            go_roundg (pn - (i + 1))
            case measure => omega
            case rel => exact ⟨i + 1, by first | rfl | go_num, by first | rw [hsn] | (rw [HS1.out, HS0.out]; rfl) | go_num, by omega, Nat.le_refl _, HBe⟩
      · have hltz : ¬ (i : Int) < (pn : Int) := by omega
        obtain rfl : i = pn := by omega
        have HBW : Hid (Below w.heap.size w wr) := HB4.out.trans (HB.out.mono HB4.out.size)
        obtain ⟨s0, hs0⟩ : ∃ s0, s0 = smL P i := ⟨_, rfl⟩
        have hes : en = s0 := by rw [hs0]; exact HEN.out
        subst hes
        rw [← hs0]
        have CAb : Hid _ := aboveD _ _ pvs P pts wr (HR.out wr HBW.out) i HN.out (by omega) HBL.out (HQ.out wr HBW.out) (by rw [HQN.out]; omega)
        clear hs0 HB
        go_wp2_with fail
        refine Calls.mono CAb.out ?_
        clear CAb
        rintro e wa ⟨hE, hwa⟩
        have HBa : Hid (Below w.heap.size w wa) := HBW.out.trans (hwa.mono HBW.out.size)
        clear hwa HBW
        rcases hno : noPts (i : Int) pts with _ | _
        · have HIN : Hid (∀ x ∈ pts, 0 ≤ x ∧ x < (i : Int)) := fun x hx => by
            have := List.any_eq_false.1 hno x hx
            unfold noPt at this
            simp at this
            omega
          obtain ⟨ro, rn, rc, R, rfl, hR1, hR2⟩ := hE.yes HC.out hno
          have HRA : Hid (RG (Value.int .i64) wa (.slice ro rn rc) R) := hR1.rg
          have HRM : Hid (∀ x, x ∈ R ↔ RchP P pts x) := hR2
          clear hE hR1 hR2 hno
          go_wp2
          go_loopg [19, 20, 21, 22, 23] i (fun g1 v19 _v20 _v21 _v22 _v23 wr => ∃ k : Nat, v19 = .int .i64 k ∧ k ≤ i ∧ i - k ≤ g1 ∧ Hid (Below wa.heap.size wa wr))
          case atStart => exact ⟨0, rfl, by omega, by omega, Below.refl _ _⟩
          case round =>
            obtain ⟨k, rfl, hkn, hg2, HBk⟩ := hrel
            by_cases hlk : k < i
            · have hlkz : (k : Int) < (i : Int) := by omega
              go_wp2
              go_loopg [20, 21, 22, 23] qn (fun g2 v20 v21 _v22 _v23 wq => ∃ j : Nat, v21 = .int .i64 j ∧ v20 = .bool (smB P pts (k : Int) j) ∧ j ≤ qn ∧ qn - j ≤ g2 ∧ Hid (Below wa.heap.size wa wq))
              case atStart => exact ⟨0, rfl, by rw [smB_zero], by omega, by omega, HBk⟩
              case round =>
                clear HBk
                obtain ⟨j, rfl, rfl, hjn, hg3, HBj⟩ := hrel
                by_cases hlj : j < qn
                · have hljz : (j : Int) < (qn : Int) := by omega
                  have HBjw : Hid (Below w.heap.size w wr) := HBa.out.trans (HBj.out.mono HBa.out.size)
                  obtain ⟨x, gx, ox, hx1, rfl, hx2⟩ := (HQ.out wr HBjw.out).at hlj
                  have hxp := HIN.out x (List.mem_of_getElem? hx1)
                  obtain ⟨WA, hWA⟩ : ∃ W, W = wr.alloc (.cells #[.int .i64 x] 3) := ⟨_, rfl⟩
                  have hqa : RG (Value.int .i64) WA (.slice (some ⟨wr.heap.size, 0, none⟩) 1 1) [x] := by rw [hWA]; exact RG.lit wr 3 [x] (by simp)
                  have hba : Below wr.heap.size wr WA := by rw [hWA]; exact belowB _ _
                  have HBA : Hid (Below wr.heap.size wr WA) := hba
                  have CAx : Hid _ := aboveD _ _ pvs P [x] WA (HR.out WA (HBjw.out.trans (hba.mono HBjw.out.size))) i HN.out (by omega) HBL.out hqa (by simp)
                  have HWA : Hid (WA = wr.alloc (.cells #[.int .i64 x] 3)) := hWA
                  have HX1 : Hid (pts[j]? = some x) := hx1
                  clear hqa hba hWA hx1 HBjw
                  go_wp2_with fail
                  rw [← HWA.out]
                  refine Calls.mono CAx.out ?_
                  clear CAx HWA hx2
                  rintro e wb ⟨hE, hwb⟩
                  obtain ⟨bo, bn, bc, Rb, rfl, hRb1, hRb2⟩ := hE.yes HC.out (no_one hxp)
                  have HBb : Hid (Below wa.heap.size wa wb) := HBj.out.trans ((HBA.out.trans (hwb.mono HBA.out.size)).mono HBj.out.size)
                  have HST : Hid (smB P pts (k : Int) (j + 1) = (smB P pts (k : Int) j || decide ((k : Int) ∈ Rb))) := smB_step HX1.out hRb2
                  have CI : Hid _ := inD _ Rb (k : Int) wb hRb1.rg
                  clear hE hRb1 hRb2 hwb HBA HBj
                  rcases hsb : smB P pts (k : Int) j with _ | _
                  · rw [hsb] at HST
                    obtain ⟨t, ht⟩ : ∃ t, t = decide ((k : Int) ∈ Rb) := ⟨_, rfl⟩
                    rw [← ht] at CI HST
                    rw [Bool.false_or] at HST
                    clear ht hsb
                    go_wp2_with fail
                    refine Calls.mono CI.out ?_
                    clear CI
                    rintro e wi2 ⟨rfl, rfl⟩
                    rcases t with _ | _
                    · go_wp2
                      go_roundg (qn - (j + 1))
                      case measure => omega
                      case rel => exact ⟨j + 1, by first | rfl | go_num, by rw [HST.out], by omega, Nat.le_refl _, HBb⟩
                    · go_wp2
                      go_roundg (qn - (j + 1))
                      case measure => omega
                      case rel => exact ⟨j + 1, by first | rfl | go_num, by rw [HST.out], by omega, Nat.le_refl _, HBb⟩
                  · rw [hsb, Bool.true_or] at HST
                    clear CI hsb
                    go_wp2
                    go_roundg (qn - (j + 1))
                    case measure => omega
                    case rel => exact ⟨j + 1, by first | rfl | go_num, by rw [HST.out], by omega, Nat.le_refl _, HBb⟩
                · have hljz : ¬ (j : Int) < (qn : Int) := by omega
                  obtain rfl : j = qn := by omega
                  have CI : Hid _ := inD _ R (k : Int) wr (HRA.out.below (Nat.le_refl _) HBj.out)
                  rw [← smB_end (P := P) (pts := pts) (k := (k : Int)) (n := j) (by rw [HQN.out]; exact Nat.le_refl _) HRM.out] at CI
                  obtain ⟨t, ht⟩ : ∃ t, t = smB P pts (k : Int) j := ⟨_, rfl⟩
                  rw [← ht] at CI ⊢
                  have htt : (t != t) = false := by simp
                  clear ht
                  go_wp2_with fail
                  refine Calls.mono CI.out ?_
                  clear CI
                  rintro e wi2 ⟨rfl, rfl⟩
                  go_wp2
                  go_roundg (i - (k + 1))
                  case measure => omega
                  case rel => exact ⟨k + 1, by first | rfl | go_num, by omega, Nat.le_refl _, HBj⟩
            · have hlkz : ¬ (k : Int) < (i : Int) := by omega
              have HBe : Hid (Below w.heap.size w wr) := HBa.out.trans (HBk.out.mono HBa.out.size)
              clear HBk
              go_wp2
              go_ret
              exact ⟨rfl, HBe.out⟩
        · rcases hE with ⟨h, _⟩ | ⟨_, ⟨_, rfl⟩ | ⟨h, _⟩⟩
          · exact absurd HC.out h
          · clear hno
            go_wp2
            go_ret
            exact ⟨rfl, HBa.out⟩
          · rw [hno] at h; exact absurd h (by simp)
  · have h1 : (c != (0 : Int)) = true := by simpa using hc0
    go_wp2
    go_ret
    exact ⟨rfl, HB2.out⟩
end Go.Proofs.Ytmgbhbdcnciccaa
