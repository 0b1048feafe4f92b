/-
  Proved here: the law on what is closed among what is kept, walked.
-/
import Derived.Test.YtcoiapgfaibkgabGreatPrY
import Derived.Test.YtcoiapgfaibkgabGreatDagOpen2All
namespace Go.Proofs.YtcoiapgfaibkgabGreat
set_option linter.unusedVariables false
open Go.RowKit Go.Shelf Go.Sort Go.Lib
set_option maxRecDepth 1000000 in
set_option maxHeartbeats 12800000 in
theorem pruneClosed_top (pv : Value) (pvs : List Value) (P : List (List Int)) (av : Value) (a : List Int) (qv : Value) (G : List Int) (w : World) (h : RRD w pv pvs P) (hbl : ∀ i, (P.getD i []).length ≤ 1048576) (ha : RG (Value.int .i64) w av a) (hal : a.length ≤ 1048576) (hq : RG (Value.int .i64) w qv G) (hql : G.length ≤ 1048576) :
    Calls Tryz.prog 4 #[pv, av, qv] w fun e w' => e = .returned (.bool true) ∧ Below w.heap.size w w' := by
  obtain ⟨i0, hi, hz0, hz1, hz2⟩ := info_parts Tryz.infoI
  obtain ⟨po, pn, pc, rfl⟩ : ∃ o n c, pv = .slice o n c := by obtain ⟨ao, cap, e⟩ := h.out.sl; exact ⟨_, _, _, e⟩
  have hn : P.length = pn := by rw [← h.len, h.out.len]
  obtain ⟨ao, an, ac, rfl⟩ : ∃ o n c, av = .slice o n c := by obtain ⟨ao, cap, e⟩ := ha.sl; exact ⟨_, _, _, e⟩
  obtain ⟨qo, qn, qc, rfl⟩ : ∃ o n c, qv = .slice o n c := by obtain ⟨ao, cap, e⟩ := hq.sl; exact ⟨_, _, _, e⟩
  have CA : Hid _ := alive17 w
  have HR : Hid (∀ W, Below w.heap.size w W → RRD W (.slice po pn pc) pvs P) := fun W hW => h.below (Nat.le_refl _) hW
  have HA : Hid (∀ W, Below w.heap.size w W → RG (Value.int .i64) W (.slice ao an ac) a) := fun W hW => ha.below (Nat.le_refl _) hW
  have HQ : Hid (∀ W, Below w.heap.size w W → RG (Value.int .i64) W (.slice qo qn qc) G) := fun W hW => hq.below (Nat.le_refl _) hW
  have HN : Hid (P.length = pn) := hn
  have HAN : Hid (a.length = an) := ha.len
  have HQN : Hid (G.length = qn) := hq.len
  have HBL0 : Hid (∀ i, (P.getD i []).length ≤ 1048576) := hbl
  clear h hn hbl ha hal hq hql
  go_enter Tryz.func4, Tryz.ntmps4
  go_wp2_with fail
  refine Calls.mono CA.out ?_
  rintro e y1 ⟨rfl, b1⟩
  have B1 : Hid (Below w.heap.size w y1) := b1
  have CM : Hid _ := many17 (.slice po pn pc) pvs P y1 (HR.out y1 b1) HBL0.out
  clear CA b1
  go_wp2_with fail
  refine Calls.mono CM.out ?_
  clear CM
  rintro e y ⟨rfl, hy0⟩
  rw [hy0]
  clear hy0 y
  rcases hm : manyC P with _ | _
  case true =>
    clear hm
    go_wp2
    go_ret
    exact ⟨rfl, B1.out⟩
  obtain ⟨hm1, hm2⟩ := many17_no hm
  rw [HN.out] at hm1
  have HP14 : Hid (pn ≤ 14) := hm1
  have HBL : Hid (∀ i, (P.getD i []).length ≤ 100000) := fun i => by have := len_smB P i; omega
  clear hm hm1 hm2 HBL0
  by_cases hbig : 100 < an
  · have hb1 : (100 : Int) < (an : Int) := by omega
    have hb2 : (an : Int) > 100 := by omega
    go_wp2
    go_ret
    exact ⟨rfl, B1.out⟩
  have hb1 : ¬ (100 : Int) < (an : Int) := by omega
  have HA100 : Hid (an ≤ 100) := by show _ ≤ _; omega
  clear hbig
  by_cases hbig : 100 < qn
  · have hb3 : (100 : Int) < (qn : Int) := by omega
    have hb4 : (qn : Int) > 100 := by omega
    go_wp2
    go_ret
    exact ⟨rfl, B1.out⟩
  have hb3 : ¬ (100 : Int) < (qn : Int) := by omega
  have HQ100 : Hid (qn ≤ 100) := by show _ ≤ _; omega
  clear hbig
  have HKE : Hid (∀ (b p : Bool) W, Below w.heap.size w W → Calls Tryz.prog 12 #[.slice po pn pc, .slice ao an ac, .slice qo qn qc, .bool b, .bool p] W fun e w' => PrE W.heap.size P pn a G (KpP P pn a G b p) w' e ∧ Below W.heap.size W w') := fun b p W hW => keptS (.slice po pn pc) (.slice ao an ac) (.slice qo qn qc) b p pvs P a G W (HR.out W hW) pn HN.out (by have := HP14.out; omega) HBL.out (HA.out W hW) (by have := HA100.out; rw [HAN.out]; omega) (HQ.out W hW) (by have := HQ100.out; rw [HQN.out]; omega)
  have CB : Hid _ := barrenS (.slice po pn pc) (.slice ao an ac) (.slice qo qn qc) pvs P a G y1 (HR.out y1 B1.out) pn HN.out (by have := HP14.out; omega) HBL.out (HA.out y1 B1.out) (by have := HA100.out; rw [HAN.out]; omega) (HQ.out y1 B1.out) (by have := HQ100.out; rw [HQN.out]; omega)
  go_wp2_with fail
  refine Calls.mono CB.out ?_
  rintro e y2 ⟨⟨ko, kn, kc, L0, rfl, hL, her, hok⟩, hy2⟩
  have B2 : Hid (Below w.heap.size w y2) := bstepB B1.out hy2
  clear CB hy2 hb1 hb3
  by_cases h0 : nsE P pn (a ++ G) = 0
  case neg =>
    obtain ⟨rfl, rfl, rfl, -⟩ := her h0
    obtain ⟨c, hc⟩ : ∃ c, c = nsE P pn (a ++ G) := ⟨_, rfl⟩
    rw [← hc] at h0 ⊢
    have hcz : (c != (0 : Int)) = true := by simpa using h0
    clear hc h0 her hok hL
    go_wp2
    go_ret
    exact ⟨rfl, B2.out⟩
  obtain ⟨hck, hna, hng⟩ := ns_both h0
  have hnz : noPts (pn : Int) (a ++ G) = false := (ns_parts h0).2
  have HE : Hid (nsE P pn (a ++ G) = 0) := h0
  have HCK : Hid (ckE P = 0) := hck
  have HNZ : Hid (noPts (pn : Int) (a ++ G) = false) := hnz
  have HL : Hid (∀ W, Below y2.heap.size y2 W → RG (Value.int .i64) W (.slice ko kn kc) L0) := fun W hW => hL.rg.below (Nat.le_refl _) hW
  have HLN : Hid (L0.length = kn) := hL.rg.len
  have HRI0 : Hid (Rise L0) := (hok h0).1
  have HL0 : Hid (∀ x, x ∈ L0 ↔ BaP P pn a G x) := (hok h0).2
  have hknm : kn ≤ 9223372036854775807 := by have := hL.rg.room.1; have := hL.rg.room.2.1; unfold maxLen at *; omega
  rw [h0]
  clear h0 hck hna hng hnz her hok hL
  go_wp2_with (at_builtin; refine wpList_appG _ (fun _ => rfl) rfl _ _ 23 rfl y2.heap.size 3 i0 (.int .i64 0) 8 Tryz.underlying23 hi hz0 hz1 hz2 rfl _ _ [] a rfl (OG.nil _ _ _) rfl (HA.out y2 B2.out) (by have := HA100.out; unfold maxLen; simp only [List.length_nil]; rw [HAN.out]; omega) (by have := HA100.out; simp only [List.length_nil]; rw [HAN.out]; omega) (Nat.le_refl _) ?_)
  intro v0 y3 ho0 hg0
  obtain ⟨o0, n0, c0, rfl⟩ : ∃ o n c, v0 = .slice o n c := by obtain ⟨ao, cap, e, -⟩ := ho0.sl; exact ⟨_, _, _, e⟩
  have HO0 : Hid (OG (Value.int .i64) y2.heap.size 3 y3 (.slice o0 n0 c0) a) := ho0
  have HB3 : Hid (Below y2.heap.size y2 y3) := below_grown0 hg0 rfl
  clear ho0 hg0
  go_wp2_with (at_builtin; refine wpList_appG _ (fun _ => rfl) rfl _ _ 23 rfl y2.heap.size 3 i0 (.int .i64 0) 8 Tryz.underlying23 hi hz0 hz1 hz2 rfl _ _ a G rfl HO0.out rfl (HQ.out y3 (bstepB B2.out HB3.out)) (by have := HA100.out; have := HQ100.out; unfold maxLen; rw [HAN.out, HQN.out]; omega) (by have := HA100.out; have := HQ100.out; rw [HAN.out, HQN.out]; omega) HB3.out.size ?_)
  intro v1 y4 ho1 hg1
  obtain ⟨o1, n1, c1, rfl⟩ : ∃ o n c, v1 = .slice o n c := by obtain ⟨ao, cap, e, -⟩ := ho1.sl; exact ⟨_, _, _, e⟩
  have HB4 : Hid (Below y2.heap.size y2 y4) := HO0.out.grown HB3.out HB3.out.size hg1
  have CV : Hid _ := aboveD (.slice po pn pc) (.slice o1 n1 c1) pvs P (a ++ G) y4 (HR.out y4 (bstepB B2.out HB4.out)) pn HN.out (by have := HP14.out; omega) HBL.out ho1.rg (by have := HA100.out; have := HQ100.out; rw [List.length_append, HAN.out, HQN.out]; omega)
  clear ho1 hg1 HO0 HB3
  go_wp2_with fail
  refine Calls.mono CV.out ?_
  rintro e y5 ⟨hab, by5⟩
  have HB5 : Hid (Below y2.heap.size y2 y5) := bstepB HB4.out by5
  obtain ⟨tv, R, rfl, hR1, hR2, hR3⟩ : ∃ tv R, e = .returned (.tuple #[tv, .int .i64 0]) ∧ OG (Value.int .i64) y4.heap.size 3 y5 tv R ∧ R.Pairwise (· < ·) ∧ ∀ x, x ∈ R ↔ RchP P (a ++ G) x := by
    rcases hab with ⟨h1, _⟩ | ⟨_, ⟨h1, _⟩ | ⟨_, tv, R, h2, h3, h4, h5⟩⟩
    · exact absurd HCK.out h1
    · rw [HNZ.out] at h1; simp at h1
    · exact ⟨tv, R, h2, h3, h4, h5⟩
  obtain ⟨tO, tn, tc, rfl⟩ : ∃ o n c, tv = .slice o n c := by obtain ⟨ao, cap, e, -⟩ := hR1.sl; exact ⟨_, _, _, e⟩
  have htn : R.length = tn := hR1.rg.len
  have hsum : tn + kn = pn := by
    have h1 := rise_part (n := pn) hR2 HRI0.out (fun x hx => rch_pt (outs_no (cl_zero (ck_zero HCK.out)).1) HN.out HNZ.out ((hR3 x).1 hx)) (fun x => by
      rw [HL0.out x]; unfold BaP; simp only [hR3])
    rw [htn, HLN.out] at h1
    exact h1
  have HTR : Hid (∀ W, Below y5.heap.size y5 W → RG (Value.int .i64) W (.slice tO tn tc) R) := fun W hW => hR1.rg.below (Nat.le_refl _) hW
  have HRM : Hid (∀ x ∈ L0, x ∉ R) := fun x hx h1 => by
    obtain ⟨k, e, hk, h2⟩ := (HL0.out x).1 hx
    exact h2 ((hR3 x).1 h1)
  have hswz : IntKind.i64.wrap ((tn : Int) + (kn : Int)) = (pn : Int) := by rw [IntKind.wrap_i64]; have := HP14.out; omega
  have B5 : Hid (Below w.heap.size w y5) := bstepB B2.out HB5.out
  have HL5 : Hid (∀ W, Below y5.heap.size y5 W → RG (Value.int .i64) W (.slice ko kn kc) L0) := fun W hW => HL.out W (bstepB HB5.out hW)
  have HB6 : Hid (Below y5.heap.size y5 y5) := Below.refl _ _
  clear CV hab by5 hR1 hR2 hR3 htn hsum HB4 HB5 HL
  go_wp2
  clear hswz
  go_loopg [13] kn (fun g1 v13 wr => ∃ i : Nat, v13 = .int .i64 i ∧ i ≤ kn ∧ kn - i ≤ g1 ∧ Hid (Below y5.heap.size y5 wr))
  case atStart => exact ⟨0, rfl, Nat.zero_le _, by omega, HB6⟩
  case round =>
    clear HB6
    obtain ⟨i, rfl, hin, hg1, HB⟩ := hrel
    by_cases hlt : i < kn
    · have hltz : (i : Int) < (kn : Int) := by omega
      obtain ⟨x, gx, ox, hx1, rfl, hx2⟩ := (HL5.out wr HB.out).at hlt
      change wr.cell? ⟨gx, ox + i, none⟩ = some (.int .i64 x) at hx2
      have CH : Hid _ := hasD (.slice tO tn tc) R x wr (HTR.out wr HB.out)
      rw [decide_eq_false (HRM.out x (List.mem_of_getElem? hx1))] at CH
      clear hx1
      go_wp2_with fail
      refine Calls.mono CH.out ?_
      rintro e y ⟨rfl, hy⟩
      rw [hy]
      clear CH hy y hx2
      go_wp2
      go_roundg (kn - (i + 1))
      case measure => omega
      case rel => exact ⟨i + 1, by first | rfl | go_num, by omega, Nat.le_refl _, HB⟩
    · have hltz : ¬ (i : Int) < (kn : Int) := by omega
      obtain ⟨y6, rfl⟩ : ∃ W, W = wr := ⟨_, rfl⟩
      have B6 : Hid (Below w.heap.size w y6) := bstepB B5.out HB.out
      have HL6 : Hid (∀ W, Below y6.heap.size y6 W → RG (Value.int .i64) W (.slice ko kn kc) L0) := fun W hW => HL5.out W (bstepB HB.out hW)
      have CN : Hid _ := HKE.out false false y6 B6.out
      clear HB HL5 HTR HRM hltz hin hg1
      go_wp2_with fail
      refine Calls.mono CN.out ?_
      rintro e y7 ⟨⟨mo, mn, mc, M, rfl, hM, -, hokM⟩, by7⟩
      have hmn : mn = pn := by
        have h1 := rise_all (n := pn) (hokM HE.out).1 (fun x => by
          rw [(hokM HE.out).2 x]
          unfold KpP
          constructor
          · rintro ⟨k, e, hk, -⟩; exact ⟨k, e, hk⟩
          · rintro ⟨k, e, hk⟩; exact ⟨k, e, hk, fun h => by simp at h, fun h => by simp at h⟩)
        rw [← h1]; exact hM.rg.len.symm
      obtain rfl := hmn
      rw [HE.out]
      have HB7 : Hid (Below y6.heap.size y6 y7) := by7
      clear CN hM hokM by7
      go_wp2
      go_loopg [16, 17, 18, 19, 20, 21, 22, 23] 4 (fun g1 v16 _v17 _v18 _v19 _v20 _v21 _v22 _v23 wr => ∃ m : Nat, v16 = .int .i64 m ∧ 1 ≤ m ∧ m ≤ 4 ∧ 4 - m ≤ g1 ∧ Hid (Below y6.heap.size y6 wr))
      case atStart => exact ⟨1, rfl, Nat.le_refl _, by omega, by omega, HB7⟩
      case round =>
        clear HB7
        obtain ⟨m, rfl, hm1, hm4, hg1, HB⟩ := hrel
        by_cases hltm : m < 4
        · have hltz : (m : Int) < 4 := by omega
          obtain ⟨b, hb⟩ : ∃ b, (bits BinOp.and IntKind.i64 (m : Int) 1 != 0) = b := ⟨_, rfl⟩
          obtain ⟨p, hp⟩ : ∃ p, (bits BinOp.and IntKind.i64 (m : Int) 2 != 0) = p := ⟨_, rfl⟩
          have HBP : Hid ((b = true ∨ p = true) ∧ (m = 1 → b = true ∧ p = false)) := by
            have hm3 : m = 1 ∨ m = 2 ∨ m = 3 := by omega
            rcases hm3 with rfl | rfl | rfl
            · exact ⟨Or.inl (by rw [← hb]; decide), fun _ => ⟨by rw [← hb]; decide, by rw [← hp]; decide⟩⟩
            · exact ⟨Or.inr (by rw [← hp]; decide), fun e => by simp at e⟩
            · exact ⟨Or.inl (by rw [← hb]; decide), fun e => by simp at e⟩
          have CK : Hid _ := HKE.out b p wr (bstepB B6.out HB.out)
          go_wp2_with fail
          refine Calls.mono CK.out ?_
          rintro e y8 ⟨⟨lo, ln, lc, L, rfl, hL, -, hok⟩, by8⟩
          have HC : Hid (ClP P mn a G L0 m L) := ClP.of HN.out HE.out HBP.out.1 HBP.out.2 HL0.out (hok HE.out)
          clear hb hp HBP
          rw [HE.out]
          have HB8 : Hid (Below y6.heap.size y6 y8) := bstepB HB.out by8
          have HLR : Hid (∀ W, Below y8.heap.size y8 W → RG (Value.int .i64) W (.slice lo ln lc) L) := fun W hW => hL.rg.below (Nat.le_refl _) hW
          have hlnm : ln ≤ 9223372036854775807 := by have := hL.rg.room.1; have := hL.rg.room.2.1; unfold maxLen at *; omega
          have HB9 : Hid (Below y8.heap.size y8 y8) := Below.refl _ _
          clear CK hL hok by8 HB
          go_wp2
          go_loopg [19, 20, 21] ln (fun g2 v19 _v20 _v21 wz => ∃ i : Nat, v19 = .int .i64 i ∧ i ≤ ln ∧ ln - i ≤ g2 ∧ Hid (Below y8.heap.size y8 wz))
          case atStart => exact ⟨0, rfl, Nat.zero_le _, by omega, HB9⟩
          case round =>
            clear HB9
            obtain ⟨i, rfl, hin, hg2, HBZ⟩ := hrel
            by_cases hlti : i < ln
            · have hltiz : (i : Int) < (ln : Int) := by omega
              obtain ⟨wi, rfl⟩ : ∃ W, W = wr := ⟨_, rfl⟩
              obtain ⟨x, gx, ox, hx1, rfl, hx2⟩ := (HLR.out wi HBZ.out).at hlti
              change wi.cell? ⟨gx, ox + i, none⟩ = some (.int .i64 x) at hx2
              obtain ⟨k, rfl, hk⟩ := HC.out.pt x (List.mem_of_getElem? hx1)
              have hkz : ((k : Int) < (mn : Int)) := by omega
              have hk0 : ¬ ((k : Int) < 0) := by omega
              have hkg : ¬ (k : Int) ≥ (mn : Int) := by omega
              have HKL : Hid ((k : Int) ∈ L) := List.mem_of_getElem? hx1
              have CH : Hid (∀ W, Below wi.heap.size wi W → Calls Tryz.prog 11 #[.slice ko kn kc, .int .i64 (k : Int)] W fun e w' => e = .returned (.bool false) ∧ w' = W) := fun W hW => by
                have h5 := hasD (.slice ko kn kc) L0 (k : Int) W (HL6.out W (bstepB (bstepB HB8.out HBZ.out) hW))
                rwa [decide_eq_false (HC.out.nb _ HKL.out)] at h5
              have hR := HR.out wi (bstepB B6.out (bstepB HB8.out HBZ.out))
              obtain ⟨u, gu, ou, hu1, rfl, hu2⟩ := hR.out.at hk
              have hur := hR.inn k u hu1
              obtain ⟨uo, un, uc, rfl⟩ : ∃ o n c, u = .slice o n c := by obtain ⟨ao, cap, e⟩ := hur.sl; exact ⟨_, _, _, e⟩
              change wi.cell? ⟨gu, ou + k, none⟩ = some (.slice uo un uc) at hu2
              have HU2 : Hid (wi.cell? ⟨gu, ou + k, none⟩ = some (.slice uo un uc)) := hu2
              have HX2 : Hid (wi.cell? ⟨gx, ox + i, none⟩ = some (.int .i64 (k : Int))) := hx2
              have HUR : Hid (∀ W, Below wi.heap.size wi W → RG (Value.int .i64) W (.slice uo un uc) (P.getD k [])) := fun W hW => hur.below (Nat.le_refl _) hW
              have hunm : un ≤ 9223372036854775807 := by have := hur.room.1; have := hur.room.2.1; unfold maxLen at *; omega
              have FIN : Hid (∃ j0 : Nat, i = 0 ∨ (i = j0 + 1 ∧ ∃ x' : Int, wi.cell? ⟨gx, ox + j0, none⟩ = some (.int .i64 x') ∧ x' < (k : Int))) := by
                show ∃ j0 : Nat, _
                by_cases hi0 : i = 0
                · exact ⟨0, Or.inl hi0⟩
                · obtain ⟨j0, rfl⟩ : ∃ j0, i = j0 + 1 := ⟨i - 1, by omega⟩
                  obtain ⟨x', gx', ox', hx1', he', hx2'⟩ := (HLR.out wi HBZ.out).at (show j0 < ln by omega)
                  simp only [Option.some.injEq, Addr.mk.injEq] at he'
                  obtain ⟨rfl, rfl, -⟩ := he'
                  refine ⟨j0, Or.inr ⟨rfl, x', hx2', ?_⟩⟩
                  have hp := HC.out.rise
                  obtain ⟨l1, l2⟩ := List.getElem?_eq_some_iff.1 hx1'
                  obtain ⟨l3, l4⟩ := List.getElem?_eq_some_iff.1 hx1
                  have := (List.pairwise_iff_getElem.1 hp) j0 (j0 + 1) l1 l3 (by omega)
                  rw [l2, l4] at this
                  exact this
              clear hx1 hR hu1 hur hu2
              obtain ⟨j0, hj⟩ := FIN.out
              clear FIN
              rcases hj with hj | ⟨hj, x', hx', hlt'⟩
              case' inl =>
                have hi0 : ¬ (0 : Int) < (i : Int) := by omega
                clear hj
                go_upto_region 30 with fail
                have KEEP : ∀ u, Below wi.heap.size wi u → L4.AllL u [(3, fun w' => w'.cell? ⟨gx, ox + i, none⟩ = some (.int .i64 ((k : Nat) : Int))), (9, fun w' => w'.cell? ⟨gx, ox + i, none⟩ = some (.int .i64 ((k : Nat) : Int))), (21, fun w' => True), (26, fun w' => True), (35, fun w' => w'.cell? ⟨gx, ox + i, none⟩ = some (.int .i64 ((k : Nat) : Int)))] := fun u hu => ⟨keepR hu HX2.out, keepR hu HX2.out, trivial, trivial, keepR hu HX2.out, trivial⟩
                refine L4.region_late [(3, fun w' => w'.cell? ⟨gx, ox + i, none⟩ = some (.int .i64 ((k : Nat) : Int))), (9, fun w' => w'.cell? ⟨gx, ox + i, none⟩ = some (.int .i64 ((k : Nat) : Int))), (21, fun w' => True), (26, fun w' => True), (35, fun w' => w'.cell? ⟨gx, ox + i, none⟩ = some (.int .i64 ((k : Nat) : Int)))] (by kernel_rfl) ?_
                have B : Below wi.heap.size wi wi.drew := (Below.refl _ _).drew
                obtain ⟨w1, hw1⟩ : ∃ u, u = wi.drew := ⟨_, rfl⟩
                rw [← hw1] at B ⊢
                clear hw1
                have hHeld := KEEP _ B
                refine L4.late_free 0 (v := .slice (some ⟨gx, ox, none⟩) ln lc) rfl (by kernel_rfl) (by kernel_rfl) (by kernel_rfl) (by kernel_rfl) (by kernel_rfl) (by kernel_rfl) (fun _ _ _ h => h) (Or.inl ⟨by rfl, ?_⟩) hHeld ?_
                · (intro u _; go_simp)
                (try simp only [Act.put, List.setIfInBounds_toArray, List.set_cons_zero, List.set_cons_succ])
                refine L4.late_free 1 (v := .int .i64 ((i : Nat) : Int)) rfl (by kernel_rfl) (by kernel_rfl) (by kernel_rfl) (by kernel_rfl) (by kernel_rfl) (by kernel_rfl) (fun _ _ _ h => h) (Or.inl ⟨by rfl, ?_⟩) hHeld ?_
                · (intro u _; go_simp)
                (try simp only [Act.put, List.setIfInBounds_toArray, List.set_cons_zero, List.set_cons_succ])
                refine L4.late_free 2 (v := .pointer (some ⟨gx, ox + i, none⟩)) rfl (by kernel_rfl) (by kernel_rfl) (by kernel_rfl) (by kernel_rfl) (by kernel_rfl) (by kernel_rfl) (fun _ _ _ h => h) (Or.inl ⟨by rfl, ?_⟩) hHeld ?_
                · (intro u _; go_simp)
                (try simp only [Act.put, List.setIfInBounds_toArray, List.set_cons_zero, List.set_cons_succ])
                refine L4.late_take 3 (v := .int .i64 ((k : Nat) : Int)) rfl (by kernel_rfl) (List.Mem.head _) (by kernel_rfl) (by kernel_rfl) (by kernel_rfl) (by kernel_rfl) (fun _ _ _ h => h) (Or.inl ⟨by rfl, ?_⟩) hHeld ?_
                · (intro u hu; (try dsimp only at hu); go_split_ands; go_simp)
                (try simp only [Act.put, List.setIfInBounds_toArray, List.set_cons_zero, List.set_cons_succ])
                refine L4.late_free 4 (v := .bool false) rfl (by kernel_rfl) (by kernel_rfl) (by kernel_rfl) (by kernel_rfl) (by kernel_rfl) (by kernel_rfl) (fun _ _ _ h => h) (Or.inl ⟨by rfl, ?_⟩) hHeld ?_
                · (intro u _; go_simp)
                (try simp only [Act.put, List.setIfInBounds_toArray, List.set_cons_zero, List.set_cons_succ])
                refine L4.late_free 5 (v := .bool false) rfl (by kernel_rfl) (by kernel_rfl) (by kernel_rfl) (by kernel_rfl) (by kernel_rfl) (by kernel_rfl) (fun _ _ _ h => h) (Or.inl ⟨by rfl, ?_⟩) hHeld ?_
                · (intro u _; go_simp)
                (try simp only [Act.put, List.setIfInBounds_toArray, List.set_cons_zero, List.set_cons_succ])
                refine L4.late_free 6 (v := .slice (some ⟨gx, ox, none⟩) ln lc) rfl (by kernel_rfl) (by kernel_rfl) (by kernel_rfl) (by kernel_rfl) (by kernel_rfl) (by kernel_rfl) (fun _ _ _ h => h) (Or.inl ⟨by rfl, ?_⟩) hHeld ?_
                · (intro u _; go_simp)
                (try simp only [Act.put, List.setIfInBounds_toArray, List.set_cons_zero, List.set_cons_succ])
                refine L4.late_free 7 (v := .int .i64 ((i : Nat) : Int)) rfl (by kernel_rfl) (by kernel_rfl) (by kernel_rfl) (by kernel_rfl) (by kernel_rfl) (by kernel_rfl) (fun _ _ _ h => h) (Or.inl ⟨by rfl, ?_⟩) hHeld ?_
                · (intro u _; go_simp)
                (try simp only [Act.put, List.setIfInBounds_toArray, List.set_cons_zero, List.set_cons_succ])
                refine L4.late_free 8 (v := .pointer (some ⟨gx, ox + i, none⟩)) rfl (by kernel_rfl) (by kernel_rfl) (by kernel_rfl) (by kernel_rfl) (by kernel_rfl) (by kernel_rfl) (fun _ _ _ h => h) (Or.inl ⟨by rfl, ?_⟩) hHeld ?_
                · (intro u _; go_simp)
                (try simp only [Act.put, List.setIfInBounds_toArray, List.set_cons_zero, List.set_cons_succ])
                refine L4.late_take 9 (v := .int .i64 ((k : Nat) : Int)) rfl (by kernel_rfl) (List.Mem.tail _ (List.Mem.head _)) (by kernel_rfl) (by kernel_rfl) (by kernel_rfl) (by kernel_rfl) (fun _ _ _ h => h) (Or.inl ⟨by rfl, ?_⟩) hHeld ?_
                · (intro u hu; (try dsimp only at hu); go_split_ands; go_simp)
                (try simp only [Act.put, List.setIfInBounds_toArray, List.set_cons_zero, List.set_cons_succ])
                refine L4.late_free 10 (v := .slice (some ⟨gu, ou, none⟩) mn pc) rfl (by kernel_rfl) (by kernel_rfl) (by kernel_rfl) (by kernel_rfl) (by kernel_rfl) (by kernel_rfl) (fun _ _ _ h => h) (Or.inl ⟨by rfl, ?_⟩) hHeld ?_
                · (intro u _; go_simp)
                (try simp only [Act.put, List.setIfInBounds_toArray, List.set_cons_zero, List.set_cons_succ])
                refine L4.late_free 11 (v := .int .i64 ((mn : Nat) : Int)) rfl (by kernel_rfl) (by kernel_rfl) (by kernel_rfl) (by kernel_rfl) (by kernel_rfl) (by kernel_rfl) (fun _ _ _ h => h) (Or.inl ⟨by rfl, ?_⟩) hHeld ?_
                · (intro u _; go_simp)
                (try simp only [Act.put, List.setIfInBounds_toArray, List.set_cons_zero, List.set_cons_succ])
                refine L4.late_free 12 (v := .bool false) rfl (by kernel_rfl) (by kernel_rfl) (by kernel_rfl) (by kernel_rfl) (by kernel_rfl) (by kernel_rfl) (fun _ _ _ h => h) (Or.inl ⟨by rfl, ?_⟩) hHeld ?_
                · (intro u _; go_simp)
                (try simp only [Act.put, List.setIfInBounds_toArray, List.set_cons_zero, List.set_cons_succ])
                refine L4.late_free 13 (v := .bool false) rfl (by kernel_rfl) (by kernel_rfl) (by kernel_rfl) (by kernel_rfl) (by kernel_rfl) (by kernel_rfl) (fun _ _ _ h => h) (Or.inl ⟨by rfl, ?_⟩) hHeld ?_
                · (intro u _; go_simp)
                (try simp only [Act.put, List.setIfInBounds_toArray, List.set_cons_zero, List.set_cons_succ])
                refine L4.late_free 14 (v := .bool false) rfl (by kernel_rfl) (by kernel_rfl) (by kernel_rfl) (by kernel_rfl) (by kernel_rfl) (by kernel_rfl) (fun _ _ _ h => h) (Or.inl ⟨by rfl, ?_⟩) hHeld ?_
                · (intro u _; go_simp)
                (try simp only [Act.put, List.setIfInBounds_toArray, List.set_cons_zero, List.set_cons_succ])
                refine L4.late_free 15 (v := .int .i64 ((i : Nat) : Int)) rfl (by kernel_rfl) (by kernel_rfl) (by kernel_rfl) (by kernel_rfl) (by kernel_rfl) (by kernel_rfl) (fun _ _ _ h => h) (Or.inl ⟨by rfl, ?_⟩) hHeld ?_
                · (intro u _; go_simp)
                (try simp only [Act.put, List.setIfInBounds_toArray, List.set_cons_zero, List.set_cons_succ])
                refine L4.late_free 16 (v := .bool false) rfl (by kernel_rfl) (by kernel_rfl) (by kernel_rfl) (by kernel_rfl) (by kernel_rfl) (by kernel_rfl) (fun _ _ _ h => h) (Or.inl ⟨by rfl, ?_⟩) hHeld ?_
                · (intro u _; go_simp; all_goals (try omega))
                (try simp only [Act.put, List.setIfInBounds_toArray, List.set_cons_zero, List.set_cons_succ])
                refine L4.late_free 17 (v := .bool false) rfl (by kernel_rfl) (by kernel_rfl) (by kernel_rfl) (by kernel_rfl) (by kernel_rfl) (by kernel_rfl) (fun _ _ _ h => h) (Or.inl ⟨by rfl, ?_⟩) hHeld ?_
                · (intro u _; go_simp)
                (try simp only [Act.put, List.setIfInBounds_toArray, List.set_cons_zero, List.set_cons_succ])
                refine L4.late_free 18 (v := undef) rfl (by kernel_rfl) (by kernel_rfl) (by kernel_rfl) (by kernel_rfl) (by kernel_rfl) (by kernel_rfl) (fun _ _ _ h => h) (Or.inr ⟨by rfl, rfl⟩) hHeld ?_
                (try simp only [Act.put, List.setIfInBounds_toArray, List.set_cons_zero, List.set_cons_succ])
                refine L4.late_free 19 (v := undef) rfl (by kernel_rfl) (by kernel_rfl) (by kernel_rfl) (by kernel_rfl) (by kernel_rfl) (by kernel_rfl) (fun _ _ _ h => h) (Or.inr ⟨by rfl, rfl⟩) hHeld ?_
                (try simp only [Act.put, List.setIfInBounds_toArray, List.set_cons_zero, List.set_cons_succ])
                refine L4.late_free 20 (v := undef) rfl (by kernel_rfl) (by kernel_rfl) (by kernel_rfl) (by kernel_rfl) (by kernel_rfl) (by kernel_rfl) (fun _ _ _ h => h) (Or.inr ⟨by rfl, rfl⟩) hHeld ?_
                (try simp only [Act.put, List.setIfInBounds_toArray, List.set_cons_zero, List.set_cons_succ])
                refine L4.late_take 21 (v := undef) rfl (by kernel_rfl) (List.Mem.tail _ (List.Mem.tail _ (List.Mem.head _))) (by kernel_rfl) (by kernel_rfl) (by kernel_rfl) (by kernel_rfl) (fun _ _ _ h => h) (Or.inr ⟨by rfl, rfl⟩) hHeld ?_
                (try simp only [Act.put, List.setIfInBounds_toArray, List.set_cons_zero, List.set_cons_succ])
                refine L4.late_free 22 (v := undef) rfl (by kernel_rfl) (by kernel_rfl) (by kernel_rfl) (by kernel_rfl) (by kernel_rfl) (by kernel_rfl) (fun _ _ _ h => h) (Or.inr ⟨by rfl, rfl⟩) hHeld ?_
                (try simp only [Act.put, List.setIfInBounds_toArray, List.set_cons_zero, List.set_cons_succ])
                refine L4.late_free 23 (v := undef) rfl (by kernel_rfl) (by kernel_rfl) (by kernel_rfl) (by kernel_rfl) (by kernel_rfl) (by kernel_rfl) (fun _ _ _ h => h) (Or.inr ⟨by rfl, rfl⟩) hHeld ?_
                (try simp only [Act.put, List.setIfInBounds_toArray, List.set_cons_zero, List.set_cons_succ])
                refine L4.late_free 24 (v := undef) rfl (by kernel_rfl) (by kernel_rfl) (by kernel_rfl) (by kernel_rfl) (by kernel_rfl) (by kernel_rfl) (fun _ _ _ h => h) (Or.inr ⟨by rfl, rfl⟩) hHeld ?_
                (try simp only [Act.put, List.setIfInBounds_toArray, List.set_cons_zero, List.set_cons_succ])
                refine L4.late_free 25 (v := undef) rfl (by kernel_rfl) (by kernel_rfl) (by kernel_rfl) (by kernel_rfl) (by kernel_rfl) (by kernel_rfl) (fun _ _ _ h => h) (Or.inr ⟨by rfl, rfl⟩) hHeld ?_
                (try simp only [Act.put, List.setIfInBounds_toArray, List.set_cons_zero, List.set_cons_succ])
                refine L4.late_take 26 (v := undef) rfl (by kernel_rfl) (List.Mem.tail _ (List.Mem.tail _ (List.Mem.tail _ (List.Mem.head _)))) (by kernel_rfl) (by kernel_rfl) (by kernel_rfl) (by kernel_rfl) (fun _ _ _ h => h) (Or.inr ⟨by rfl, rfl⟩) hHeld ?_
                (try simp only [Act.put, List.setIfInBounds_toArray, List.set_cons_zero, List.set_cons_succ])
                refine L4.late_free 27 (v := undef) rfl (by kernel_rfl) (by kernel_rfl) (by kernel_rfl) (by kernel_rfl) (by kernel_rfl) (by kernel_rfl) (fun _ _ _ h => h) (Or.inr ⟨by rfl, rfl⟩) hHeld ?_
                (try simp only [Act.put, List.setIfInBounds_toArray, List.set_cons_zero, List.set_cons_succ])
                refine L4.late_free 28 (v := .bool false) rfl (by kernel_rfl) (by kernel_rfl) (by kernel_rfl) (by kernel_rfl) (by kernel_rfl) (by kernel_rfl) (fun _ _ _ h => h) (Or.inl ⟨by rfl, ?_⟩) hHeld ?_
                · (intro u _; go_simp)
                (try simp only [Act.put, List.setIfInBounds_toArray, List.set_cons_zero, List.set_cons_succ])
                refine L4.late_free 29 (v := .bool false) rfl (by kernel_rfl) (by kernel_rfl) (by kernel_rfl) (by kernel_rfl) (by kernel_rfl) (by kernel_rfl) (fun _ _ _ h => h) (Or.inl ⟨by rfl, ?_⟩) hHeld ?_
                · (intro u _; go_simp)
                (try simp only [Act.put, List.setIfInBounds_toArray, List.set_cons_zero, List.set_cons_succ])
                refine L4.late_free 30 (v := .bool false) rfl (by kernel_rfl) (by kernel_rfl) (by kernel_rfl) (by kernel_rfl) (by kernel_rfl) (by kernel_rfl) (fun _ _ _ h => h) (Or.inl ⟨by rfl, ?_⟩) hHeld ?_
                · (intro u _; go_simp)
                (try simp only [Act.put, List.setIfInBounds_toArray, List.set_cons_zero, List.set_cons_succ])
                refine L4.late_free 31 (v := .slice ko kn kc) rfl (by kernel_rfl) (by kernel_rfl) (by kernel_rfl) (by kernel_rfl) (by kernel_rfl) (by kernel_rfl) (fun _ _ _ h => h) (Or.inl ⟨by rfl, ?_⟩) hHeld ?_
                · (intro u _; go_simp)
                (try simp only [Act.put, List.setIfInBounds_toArray, List.set_cons_zero, List.set_cons_succ])
                refine L4.late_free 32 (v := .slice (some ⟨gx, ox, none⟩) ln lc) rfl (by kernel_rfl) (by kernel_rfl) (by kernel_rfl) (by kernel_rfl) (by kernel_rfl) (by kernel_rfl) (fun _ _ _ h => h) (Or.inl ⟨by rfl, ?_⟩) hHeld ?_
                · (intro u _; go_simp)
                (try simp only [Act.put, List.setIfInBounds_toArray, List.set_cons_zero, List.set_cons_succ])
                refine L4.late_free 33 (v := .int .i64 ((i : Nat) : Int)) rfl (by kernel_rfl) (by kernel_rfl) (by kernel_rfl) (by kernel_rfl) (by kernel_rfl) (by kernel_rfl) (fun _ _ _ h => h) (Or.inl ⟨by rfl, ?_⟩) hHeld ?_
                · (intro u _; go_simp)
                (try simp only [Act.put, List.setIfInBounds_toArray, List.set_cons_zero, List.set_cons_succ])
                refine L4.late_free 34 (v := .pointer (some ⟨gx, ox + i, none⟩)) rfl (by kernel_rfl) (by kernel_rfl) (by kernel_rfl) (by kernel_rfl) (by kernel_rfl) (by kernel_rfl) (fun _ _ _ h => h) (Or.inl ⟨by rfl, ?_⟩) hHeld ?_
                · (intro u _; go_simp)
                (try simp only [Act.put, List.setIfInBounds_toArray, List.set_cons_zero, List.set_cons_succ])
                refine L4.late_take 35 (v := .int .i64 ((k : Nat) : Int)) rfl (by kernel_rfl) (List.Mem.tail _ (List.Mem.tail _ (List.Mem.tail _ (List.Mem.tail _ (List.Mem.head _))))) (by kernel_rfl) (by kernel_rfl) (by kernel_rfl) (by kernel_rfl) (fun _ _ _ h => h) (Or.inl ⟨by rfl, ?_⟩) hHeld ?_
                · (intro u hu; (try dsimp only at hu); go_split_ands; go_simp)
                (try simp only [Act.put, List.setIfInBounds_toArray, List.set_cons_zero, List.set_cons_succ])
                refine L4.late_step 36 (by kernel_rfl) rfl (fun K hK => ?_)
                go_simp
                refine (CH.out _ B).mono ?_
                rintro e y2 ⟨rfl, hy2⟩
                have c2 : Below w1.heap.size w1 y2 := by rw [hy2]; exact Below.refl _ _
                clear hy2
                have B := B.trans (c2.mono B.size)
                clear c2 hHeld
                have hHeld := KEEP _ B
                go_wp2_with fail
                refine hK.out _ _ (L4.AllL.kept hHeld) ?_
                clear hK K
                (try simp only [Act.put, List.setIfInBounds_toArray, List.set_cons_zero, List.set_cons_succ])
                refine L4.late_free 37 (v := .bool false) rfl (by kernel_rfl) (by kernel_rfl) (by kernel_rfl) (by kernel_rfl) (by kernel_rfl) (by kernel_rfl) (fun _ _ _ h => h) (Or.inl ⟨by rfl, ?_⟩) hHeld ?_
                · (intro u _; go_simp)
                (try simp only [Act.put, List.setIfInBounds_toArray, List.set_cons_zero, List.set_cons_succ])
                refine L4.late_done (by kernel_rfl) ?_ _
                clear hHeld KEEP
                obtain ⟨wq, rfl⟩ : ∃ W, W = y2 := ⟨_, rfl⟩
                have HBQ : Hid (Below wi.heap.size wi wq) := B
                clear B
              case' inr =>
                have hi0 : (0 : Int) < (i : Int) := by omega
                have hiw : IntKind.i64.wrap ((i : Int) - 1) = (j0 : Int) := by rw [IntKind.wrap_i64]; omega
                have hjl : (j0 : Int) < (ln : Int) := by omega
                have hjx : ¬ (k : Int) ≤ x' := by omega
                clear hj hlt'
                go_upto_region 30 with fail
                have KEEP : ∀ u, Below wi.heap.size wi u → L4.AllL u [(3, fun w' => w'.cell? ⟨gx, ox + i, none⟩ = some (.int .i64 ((k : Nat) : Int))), (9, fun w' => w'.cell? ⟨gx, ox + i, none⟩ = some (.int .i64 ((k : Nat) : Int))), (21, fun w' => w'.cell? ⟨gx, ox + i, none⟩ = some (.int .i64 ((k : Nat) : Int))), (26, fun w' => w'.cell? ⟨gx, ox + j0, none⟩ = some (.int .i64 x')), (35, fun w' => w'.cell? ⟨gx, ox + i, none⟩ = some (.int .i64 ((k : Nat) : Int)))] := fun u hu => ⟨keepR hu HX2.out, keepR hu HX2.out, keepR hu HX2.out, keepR hu hx', keepR hu HX2.out, trivial⟩
                refine L4.region_late [(3, fun w' => w'.cell? ⟨gx, ox + i, none⟩ = some (.int .i64 ((k : Nat) : Int))), (9, fun w' => w'.cell? ⟨gx, ox + i, none⟩ = some (.int .i64 ((k : Nat) : Int))), (21, fun w' => w'.cell? ⟨gx, ox + i, none⟩ = some (.int .i64 ((k : Nat) : Int))), (26, fun w' => w'.cell? ⟨gx, ox + j0, none⟩ = some (.int .i64 x')), (35, fun w' => w'.cell? ⟨gx, ox + i, none⟩ = some (.int .i64 ((k : Nat) : Int)))] (by kernel_rfl) ?_
                have B : Below wi.heap.size wi wi.drew := (Below.refl _ _).drew
                obtain ⟨w3, hw3⟩ : ∃ u, u = wi.drew := ⟨_, rfl⟩
                rw [← hw3] at B ⊢
                clear hw3
                have hHeld := KEEP _ B
                refine L4.late_free 0 (v := .slice (some ⟨gx, ox, none⟩) ln lc) rfl (by kernel_rfl) (by kernel_rfl) (by kernel_rfl) (by kernel_rfl) (by kernel_rfl) (by kernel_rfl) (fun _ _ _ h => h) (Or.inl ⟨by rfl, ?_⟩) hHeld ?_
                · (intro u _; go_simp)
                (try simp only [Act.put, List.setIfInBounds_toArray, List.set_cons_zero, List.set_cons_succ])
                refine L4.late_free 1 (v := .int .i64 ((i : Nat) : Int)) rfl (by kernel_rfl) (by kernel_rfl) (by kernel_rfl) (by kernel_rfl) (by kernel_rfl) (by kernel_rfl) (fun _ _ _ h => h) (Or.inl ⟨by rfl, ?_⟩) hHeld ?_
                · (intro u _; go_simp)
                (try simp only [Act.put, List.setIfInBounds_toArray, List.set_cons_zero, List.set_cons_succ])
                refine L4.late_free 2 (v := .pointer (some ⟨gx, ox + i, none⟩)) rfl (by kernel_rfl) (by kernel_rfl) (by kernel_rfl) (by kernel_rfl) (by kernel_rfl) (by kernel_rfl) (fun _ _ _ h => h) (Or.inl ⟨by rfl, ?_⟩) hHeld ?_
                · (intro u _; go_simp)
                (try simp only [Act.put, List.setIfInBounds_toArray, List.set_cons_zero, List.set_cons_succ])
                refine L4.late_take 3 (v := .int .i64 ((k : Nat) : Int)) rfl (by kernel_rfl) (List.Mem.head _) (by kernel_rfl) (by kernel_rfl) (by kernel_rfl) (by kernel_rfl) (fun _ _ _ h => h) (Or.inl ⟨by rfl, ?_⟩) hHeld ?_
                · (intro u hu; (try dsimp only at hu); go_split_ands; go_simp)
                (try simp only [Act.put, List.setIfInBounds_toArray, List.set_cons_zero, List.set_cons_succ])
                refine L4.late_free 4 (v := .bool false) rfl (by kernel_rfl) (by kernel_rfl) (by kernel_rfl) (by kernel_rfl) (by kernel_rfl) (by kernel_rfl) (fun _ _ _ h => h) (Or.inl ⟨by rfl, ?_⟩) hHeld ?_
                · (intro u _; go_simp)
                (try simp only [Act.put, List.setIfInBounds_toArray, List.set_cons_zero, List.set_cons_succ])
                refine L4.late_free 5 (v := .bool false) rfl (by kernel_rfl) (by kernel_rfl) (by kernel_rfl) (by kernel_rfl) (by kernel_rfl) (by kernel_rfl) (fun _ _ _ h => h) (Or.inl ⟨by rfl, ?_⟩) hHeld ?_
                · (intro u _; go_simp)
                (try simp only [Act.put, List.setIfInBounds_toArray, List.set_cons_zero, List.set_cons_succ])
                refine L4.late_free 6 (v := .slice (some ⟨gx, ox, none⟩) ln lc) rfl (by kernel_rfl) (by kernel_rfl) (by kernel_rfl) (by kernel_rfl) (by kernel_rfl) (by kernel_rfl) (fun _ _ _ h => h) (Or.inl ⟨by rfl, ?_⟩) hHeld ?_
                · (intro u _; go_simp)
                (try simp only [Act.put, List.setIfInBounds_toArray, List.set_cons_zero, List.set_cons_succ])
                refine L4.late_free 7 (v := .int .i64 ((i : Nat) : Int)) rfl (by kernel_rfl) (by kernel_rfl) (by kernel_rfl) (by kernel_rfl) (by kernel_rfl) (by kernel_rfl) (fun _ _ _ h => h) (Or.inl ⟨by rfl, ?_⟩) hHeld ?_
                · (intro u _; go_simp)
                (try simp only [Act.put, List.setIfInBounds_toArray, List.set_cons_zero, List.set_cons_succ])
                refine L4.late_free 8 (v := .pointer (some ⟨gx, ox + i, none⟩)) rfl (by kernel_rfl) (by kernel_rfl) (by kernel_rfl) (by kernel_rfl) (by kernel_rfl) (by kernel_rfl) (fun _ _ _ h => h) (Or.inl ⟨by rfl, ?_⟩) hHeld ?_
                · (intro u _; go_simp)
                (try simp only [Act.put, List.setIfInBounds_toArray, List.set_cons_zero, List.set_cons_succ])
                refine L4.late_take 9 (v := .int .i64 ((k : Nat) : Int)) rfl (by kernel_rfl) (List.Mem.tail _ (List.Mem.head _)) (by kernel_rfl) (by kernel_rfl) (by kernel_rfl) (by kernel_rfl) (fun _ _ _ h => h) (Or.inl ⟨by rfl, ?_⟩) hHeld ?_
                · (intro u hu; (try dsimp only at hu); go_split_ands; go_simp)
                (try simp only [Act.put, List.setIfInBounds_toArray, List.set_cons_zero, List.set_cons_succ])
                refine L4.late_free 10 (v := .slice (some ⟨gu, ou, none⟩) mn pc) rfl (by kernel_rfl) (by kernel_rfl) (by kernel_rfl) (by kernel_rfl) (by kernel_rfl) (by kernel_rfl) (fun _ _ _ h => h) (Or.inl ⟨by rfl, ?_⟩) hHeld ?_
                · (intro u _; go_simp)
                (try simp only [Act.put, List.setIfInBounds_toArray, List.set_cons_zero, List.set_cons_succ])
                refine L4.late_free 11 (v := .int .i64 ((mn : Nat) : Int)) rfl (by kernel_rfl) (by kernel_rfl) (by kernel_rfl) (by kernel_rfl) (by kernel_rfl) (by kernel_rfl) (fun _ _ _ h => h) (Or.inl ⟨by rfl, ?_⟩) hHeld ?_
                · (intro u _; go_simp)
                (try simp only [Act.put, List.setIfInBounds_toArray, List.set_cons_zero, List.set_cons_succ])
                refine L4.late_free 12 (v := .bool false) rfl (by kernel_rfl) (by kernel_rfl) (by kernel_rfl) (by kernel_rfl) (by kernel_rfl) (by kernel_rfl) (fun _ _ _ h => h) (Or.inl ⟨by rfl, ?_⟩) hHeld ?_
                · (intro u _; go_simp)
                (try simp only [Act.put, List.setIfInBounds_toArray, List.set_cons_zero, List.set_cons_succ])
                refine L4.late_free 13 (v := .bool false) rfl (by kernel_rfl) (by kernel_rfl) (by kernel_rfl) (by kernel_rfl) (by kernel_rfl) (by kernel_rfl) (fun _ _ _ h => h) (Or.inl ⟨by rfl, ?_⟩) hHeld ?_
                · (intro u _; go_simp)
                (try simp only [Act.put, List.setIfInBounds_toArray, List.set_cons_zero, List.set_cons_succ])
                refine L4.late_free 14 (v := .bool false) rfl (by kernel_rfl) (by kernel_rfl) (by kernel_rfl) (by kernel_rfl) (by kernel_rfl) (by kernel_rfl) (fun _ _ _ h => h) (Or.inl ⟨by rfl, ?_⟩) hHeld ?_
                · (intro u _; go_simp)
                (try simp only [Act.put, List.setIfInBounds_toArray, List.set_cons_zero, List.set_cons_succ])
                refine L4.late_free 15 (v := .int .i64 ((i : Nat) : Int)) rfl (by kernel_rfl) (by kernel_rfl) (by kernel_rfl) (by kernel_rfl) (by kernel_rfl) (by kernel_rfl) (fun _ _ _ h => h) (Or.inl ⟨by rfl, ?_⟩) hHeld ?_
                · (intro u _; go_simp)
                (try simp only [Act.put, List.setIfInBounds_toArray, List.set_cons_zero, List.set_cons_succ])
                refine L4.late_free 16 (v := .bool true) rfl (by kernel_rfl) (by kernel_rfl) (by kernel_rfl) (by kernel_rfl) (by kernel_rfl) (by kernel_rfl) (fun _ _ _ h => h) (Or.inl ⟨by rfl, ?_⟩) hHeld ?_
                · (intro u _; go_simp; all_goals (try omega))
                (try simp only [Act.put, List.setIfInBounds_toArray, List.set_cons_zero, List.set_cons_succ])
                refine L4.late_free 17 (v := .bool true) rfl (by kernel_rfl) (by kernel_rfl) (by kernel_rfl) (by kernel_rfl) (by kernel_rfl) (by kernel_rfl) (fun _ _ _ h => h) (Or.inl ⟨by rfl, ?_⟩) hHeld ?_
                · (intro u _; go_simp)
                (try simp only [Act.put, List.setIfInBounds_toArray, List.set_cons_zero, List.set_cons_succ])
                refine L4.late_free 18 (v := .slice (some ⟨gx, ox, none⟩) ln lc) rfl (by kernel_rfl) (by kernel_rfl) (by kernel_rfl) (by kernel_rfl) (by kernel_rfl) (by kernel_rfl) (fun _ _ _ h => h) (Or.inl ⟨by rfl, ?_⟩) hHeld ?_
                · (intro u _; go_simp)
                (try simp only [Act.put, List.setIfInBounds_toArray, List.set_cons_zero, List.set_cons_succ])
                refine L4.late_free 19 (v := .int .i64 ((i : Nat) : Int)) rfl (by kernel_rfl) (by kernel_rfl) (by kernel_rfl) (by kernel_rfl) (by kernel_rfl) (by kernel_rfl) (fun _ _ _ h => h) (Or.inl ⟨by rfl, ?_⟩) hHeld ?_
                · (intro u _; go_simp)
                (try simp only [Act.put, List.setIfInBounds_toArray, List.set_cons_zero, List.set_cons_succ])
                refine L4.late_free 20 (v := .pointer (some ⟨gx, ox + i, none⟩)) rfl (by kernel_rfl) (by kernel_rfl) (by kernel_rfl) (by kernel_rfl) (by kernel_rfl) (by kernel_rfl) (fun _ _ _ h => h) (Or.inl ⟨by rfl, ?_⟩) hHeld ?_
                · (intro u _; go_simp)
                (try simp only [Act.put, List.setIfInBounds_toArray, List.set_cons_zero, List.set_cons_succ])
                refine L4.late_take 21 (v := .int .i64 ((k : Nat) : Int)) rfl (by kernel_rfl) (List.Mem.tail _ (List.Mem.tail _ (List.Mem.head _))) (by kernel_rfl) (by kernel_rfl) (by kernel_rfl) (by kernel_rfl) (fun _ _ _ h => h) (Or.inl ⟨by rfl, ?_⟩) hHeld ?_
                · (intro u hu; (try dsimp only at hu); go_split_ands; go_simp)
                (try simp only [Act.put, List.setIfInBounds_toArray, List.set_cons_zero, List.set_cons_succ])
                refine L4.late_free 22 (v := .slice (some ⟨gx, ox, none⟩) ln lc) rfl (by kernel_rfl) (by kernel_rfl) (by kernel_rfl) (by kernel_rfl) (by kernel_rfl) (by kernel_rfl) (fun _ _ _ h => h) (Or.inl ⟨by rfl, ?_⟩) hHeld ?_
                · (intro u _; go_simp)
                (try simp only [Act.put, List.setIfInBounds_toArray, List.set_cons_zero, List.set_cons_succ])
                refine L4.late_free 23 (v := .int .i64 ((i : Nat) : Int)) rfl (by kernel_rfl) (by kernel_rfl) (by kernel_rfl) (by kernel_rfl) (by kernel_rfl) (by kernel_rfl) (fun _ _ _ h => h) (Or.inl ⟨by rfl, ?_⟩) hHeld ?_
                · (intro u _; go_simp)
                (try simp only [Act.put, List.setIfInBounds_toArray, List.set_cons_zero, List.set_cons_succ])
                refine L4.late_free 24 (v := .int .i64 ((j0 : Nat) : Int)) rfl (by kernel_rfl) (by kernel_rfl) (by kernel_rfl) (by kernel_rfl) (by kernel_rfl) (by kernel_rfl) (fun _ _ _ h => h) (Or.inl ⟨by rfl, ?_⟩) hHeld ?_
                · (intro u _; go_simp)
                (try simp only [Act.put, List.setIfInBounds_toArray, List.set_cons_zero, List.set_cons_succ])
                refine L4.late_free 25 (v := .pointer (some ⟨gx, ox + j0, none⟩)) rfl (by kernel_rfl) (by kernel_rfl) (by kernel_rfl) (by kernel_rfl) (by kernel_rfl) (by kernel_rfl) (fun _ _ _ h => h) (Or.inl ⟨by rfl, ?_⟩) hHeld ?_
                · (intro u _; go_simp)
                (try simp only [Act.put, List.setIfInBounds_toArray, List.set_cons_zero, List.set_cons_succ])
                refine L4.late_take 26 (v := .int .i64 x') rfl (by kernel_rfl) (List.Mem.tail _ (List.Mem.tail _ (List.Mem.tail _ (List.Mem.head _)))) (by kernel_rfl) (by kernel_rfl) (by kernel_rfl) (by kernel_rfl) (fun _ _ _ h => h) (Or.inl ⟨by rfl, ?_⟩) hHeld ?_
                · (intro u hu; (try dsimp only at hu); go_split_ands; go_simp)
                (try simp only [Act.put, List.setIfInBounds_toArray, List.set_cons_zero, List.set_cons_succ])
                refine L4.late_free 27 (v := .bool false) rfl (by kernel_rfl) (by kernel_rfl) (by kernel_rfl) (by kernel_rfl) (by kernel_rfl) (by kernel_rfl) (fun _ _ _ h => h) (Or.inl ⟨by rfl, ?_⟩) hHeld ?_
                · (intro u _; go_simp)
                (try simp only [Act.put, List.setIfInBounds_toArray, List.set_cons_zero, List.set_cons_succ])
                refine L4.late_free 28 (v := .bool false) rfl (by kernel_rfl) (by kernel_rfl) (by kernel_rfl) (by kernel_rfl) (by kernel_rfl) (by kernel_rfl) (fun _ _ _ h => h) (Or.inl ⟨by rfl, ?_⟩) hHeld ?_
                · (intro u _; go_simp)
                (try simp only [Act.put, List.setIfInBounds_toArray, List.set_cons_zero, List.set_cons_succ])
                refine L4.late_free 29 (v := .bool false) rfl (by kernel_rfl) (by kernel_rfl) (by kernel_rfl) (by kernel_rfl) (by kernel_rfl) (by kernel_rfl) (fun _ _ _ h => h) (Or.inl ⟨by rfl, ?_⟩) hHeld ?_
                · (intro u _; go_simp)
                (try simp only [Act.put, List.setIfInBounds_toArray, List.set_cons_zero, List.set_cons_succ])
                refine L4.late_free 30 (v := .bool false) rfl (by kernel_rfl) (by kernel_rfl) (by kernel_rfl) (by kernel_rfl) (by kernel_rfl) (by kernel_rfl) (fun _ _ _ h => h) (Or.inl ⟨by rfl, ?_⟩) hHeld ?_
                · (intro u _; go_simp)
                (try simp only [Act.put, List.setIfInBounds_toArray, List.set_cons_zero, List.set_cons_succ])
                refine L4.late_free 31 (v := .slice ko kn kc) rfl (by kernel_rfl) (by kernel_rfl) (by kernel_rfl) (by kernel_rfl) (by kernel_rfl) (by kernel_rfl) (fun _ _ _ h => h) (Or.inl ⟨by rfl, ?_⟩) hHeld ?_
                · (intro u _; go_simp)
                (try simp only [Act.put, List.setIfInBounds_toArray, List.set_cons_zero, List.set_cons_succ])
                refine L4.late_free 32 (v := .slice (some ⟨gx, ox, none⟩) ln lc) rfl (by kernel_rfl) (by kernel_rfl) (by kernel_rfl) (by kernel_rfl) (by kernel_rfl) (by kernel_rfl) (fun _ _ _ h => h) (Or.inl ⟨by rfl, ?_⟩) hHeld ?_
                · (intro u _; go_simp)
                (try simp only [Act.put, List.setIfInBounds_toArray, List.set_cons_zero, List.set_cons_succ])
                refine L4.late_free 33 (v := .int .i64 ((i : Nat) : Int)) rfl (by kernel_rfl) (by kernel_rfl) (by kernel_rfl) (by kernel_rfl) (by kernel_rfl) (by kernel_rfl) (fun _ _ _ h => h) (Or.inl ⟨by rfl, ?_⟩) hHeld ?_
                · (intro u _; go_simp)
                (try simp only [Act.put, List.setIfInBounds_toArray, List.set_cons_zero, List.set_cons_succ])
                refine L4.late_free 34 (v := .pointer (some ⟨gx, ox + i, none⟩)) rfl (by kernel_rfl) (by kernel_rfl) (by kernel_rfl) (by kernel_rfl) (by kernel_rfl) (by kernel_rfl) (fun _ _ _ h => h) (Or.inl ⟨by rfl, ?_⟩) hHeld ?_
                · (intro u _; go_simp)
                (try simp only [Act.put, List.setIfInBounds_toArray, List.set_cons_zero, List.set_cons_succ])
                refine L4.late_take 35 (v := .int .i64 ((k : Nat) : Int)) rfl (by kernel_rfl) (List.Mem.tail _ (List.Mem.tail _ (List.Mem.tail _ (List.Mem.tail _ (List.Mem.head _))))) (by kernel_rfl) (by kernel_rfl) (by kernel_rfl) (by kernel_rfl) (fun _ _ _ h => h) (Or.inl ⟨by rfl, ?_⟩) hHeld ?_
                · (intro u hu; (try dsimp only at hu); go_split_ands; go_simp)
                (try simp only [Act.put, List.setIfInBounds_toArray, List.set_cons_zero, List.set_cons_succ])
                refine L4.late_step 36 (by kernel_rfl) rfl (fun K hK => ?_)
                go_simp
                refine (CH.out _ B).mono ?_
                rintro e y4 ⟨rfl, hy4⟩
                have c4 : Below w3.heap.size w3 y4 := by rw [hy4]; exact Below.refl _ _
                clear hy4
                have B := B.trans (c4.mono B.size)
                clear c4 hHeld
                have hHeld := KEEP _ B
                go_wp2_with fail
                refine hK.out _ _ (L4.AllL.kept hHeld) ?_
                clear hK K
                (try simp only [Act.put, List.setIfInBounds_toArray, List.set_cons_zero, List.set_cons_succ])
                refine L4.late_free 37 (v := .bool false) rfl (by kernel_rfl) (by kernel_rfl) (by kernel_rfl) (by kernel_rfl) (by kernel_rfl) (by kernel_rfl) (fun _ _ _ h => h) (Or.inl ⟨by rfl, ?_⟩) hHeld ?_
                · (intro u _; go_simp)
                (try simp only [Act.put, List.setIfInBounds_toArray, List.set_cons_zero, List.set_cons_succ])
                refine L4.late_done (by kernel_rfl) ?_ _
                clear hHeld KEEP
                obtain ⟨wq, rfl⟩ : ∃ W, W = y4 := ⟨_, rfl⟩
                have HBQ : Hid (Below wi.heap.size wi wq) := B
                clear B
                clear hiw hjl hjx hx' hi0
              all_goals
                (try clear hi0)
                have HB3 : Hid (Below wq.heap.size wq wq) := Below.refl _ _
                clear hx2
                have hx3 : wq.cell? ⟨gx, ox + i, none⟩ = some (.int .i64 (k : Int)) := keepR HBQ.out HX2.out
                have hu3 : wq.cell? ⟨gu, ou + k, none⟩ = some (.slice uo un uc) := keepR HBQ.out HU2.out
                go_wp2
                clear hx3 hu3
                go_loopg [20, 21] un (fun g3 v20 _v21 wz => ∃ j : Nat, v20 = .int .i64 j ∧ j ≤ un ∧ un - j ≤ g3 ∧ Hid (Below wq.heap.size wq wz))
                case atStart => exact ⟨0, rfl, Nat.zero_le _, by omega, HB3⟩
                case round =>
                  clear HB3
                  obtain ⟨j, rfl, hjn, hg3, HBJ⟩ := hrel
                  have hbi : Below wi.heap.size wi wr := bstepB HBQ.out HBJ.out
                  have hx3 : wr.cell? ⟨gx, ox + i, none⟩ = some (.int .i64 (k : Int)) := keepR hbi HX2.out
                  have hu3 : wr.cell? ⟨gu, ou + k, none⟩ = some (.slice uo un uc) := keepR hbi HU2.out
                  have HBI : Hid (Below wi.heap.size wi wr) := hbi
                  clear hbi
                  by_cases hltj : j < un
                  · have hltjz : (j : Int) < (un : Int) := by omega
                    obtain ⟨y, gy, oy, hy1, rfl, hy2⟩ := (HUR.out wr HBI.out).at hltj
                    change wr.cell? ⟨gy, oy + j, none⟩ = some (.int .i64 y) at hy2
                    have HYM : Hid (y ∈ P.getD k []) := List.mem_of_getElem? hy1
                    have CH1 : Hid _ := hasD (.slice (some ⟨gx, ox, none⟩) ln lc) L y wr (HLR.out wr (bstepB HBZ.out HBI.out))
                    clear hy1
                    by_cases hyl : y ∈ L
                    · rw [decide_eq_true hyl] at CH1
                      clear hyl
                      go_wp2_with fail
                      refine Calls.mono CH1.out ?_
                      rintro e yy ⟨rfl, hyy⟩
                      rw [hyy]
                      clear CH1 hyy yy
                      go_wp2
                      clear hx3 hu3 hy2
                      go_roundg (un - (j + 1))
                      case measure => omega
                      case rel => exact ⟨j + 1, by first | rfl | go_num, by omega, Nat.le_refl _, HBJ⟩
                    · have hyg : y ∈ G := Classical.byContradiction fun hng => hyl (HC.out.up k y HKL.out HYM.out hng)
                      rw [decide_eq_false hyl] at CH1
                      have CH2 : Hid _ := hasD (.slice qo qn qc) G y wr (HQ.out wr (bstepB B6.out (bstepB HB8.out (bstepB HBZ.out HBI.out))))
                      rw [decide_eq_true hyg] at CH2
                      clear hyl hyg
                      go_wp2_with fail
                      refine Calls.mono CH1.out ?_
                      rintro e yy ⟨rfl, hyy⟩
                      rw [hyy]
                      clear CH1 hyy yy
                      go_wp2_with fail
                      refine Calls.mono CH2.out ?_
                      rintro e yy ⟨rfl, hyy⟩
                      rw [hyy]
                      clear CH2 hyy yy
                      go_wp2
                      clear hx3 hu3 hy2
                      go_roundg (un - (j + 1))
                      case measure => omega
                      case rel => exact ⟨j + 1, by first | rfl | go_num, by omega, Nat.le_refl _, HBJ⟩
                  · have hltjz : ¬ (j : Int) < (un : Int) := by omega
                    have HB4 : Hid (Below y8.heap.size y8 wr) := bstepB HBZ.out HBI.out
                    go_wp2
                    clear hx3 hu3
                    go_roundg (ln - (i + 1))
                    case measure => omega
                    case rel => exact ⟨i + 1, by first | rfl | go_num, by omega, Nat.le_refl _, HB4⟩
            · have hltiz : ¬ (i : Int) < (ln : Int) := by omega
              have hanm : an ≤ 9223372036854775807 := by have := HA100.out; omega
              go_wp2
              go_loopg [22] an (fun g2 v22 wz => ∃ i : Nat, v22 = .int .i64 i ∧ i ≤ an ∧ an - i ≤ g2 ∧ Hid (Below y8.heap.size y8 wz))
              case atStart => exact ⟨0, rfl, Nat.zero_le _, by omega, HBZ⟩
              case round =>
                clear HBZ hltiz hin hg2
                obtain ⟨i, rfl, hin, hg2, HBZ⟩ := hrel
                by_cases hlti : i < an
                · have hltiz : (i : Int) < (an : Int) := by omega
                  obtain ⟨x, gx, ox, hx1, rfl, hx2⟩ := (HA.out wr (bstepB B6.out (bstepB HB8.out HBZ.out))).at hlti
                  change wr.cell? ⟨gx, ox + i, none⟩ = some (.int .i64 x) at hx2
                  have hxa : x ∈ a := List.mem_of_getElem? hx1
                  have CH1 : Hid _ := hasD (.slice lo ln lc) L x wr (HLR.out wr HBZ.out)
                  clear hx1
                  by_cases hyl : x ∈ L
                  · rw [decide_eq_true hyl] at CH1
                    clear hyl hxa
                    go_wp2_with fail
                    refine Calls.mono CH1.out ?_
                    rintro e yy ⟨rfl, hyy⟩
                    rw [hyy]
                    clear CH1 hyy yy
                    go_wp2
                    clear hx2
                    go_roundg (an - (i + 1))
                    case measure => omega
                    case rel => exact ⟨i + 1, by first | rfl | go_num, by omega, Nat.le_refl _, HBZ⟩
                  · have hyg : x ∈ G := Classical.byContradiction fun hng => hyl (HC.out.asd x hxa hng)
                    rw [decide_eq_false hyl] at CH1
                    have CH2 : Hid _ := hasD (.slice qo qn qc) G x wr (HQ.out wr (bstepB B6.out (bstepB HB8.out HBZ.out)))
                    rw [decide_eq_true hyg] at CH2
                    clear hyl hyg hxa
                    go_wp2_with fail
                    refine Calls.mono CH1.out ?_
                    rintro e yy ⟨rfl, hyy⟩
                    rw [hyy]
                    clear CH1 hyy yy
                    go_wp2_with fail
                    refine Calls.mono CH2.out ?_
                    rintro e yy ⟨rfl, hyy⟩
                    rw [hyy]
                    clear CH2 hyy yy
                    go_wp2
                    clear hx2
                    go_roundg (an - (i + 1))
                    case measure => omega
                    case rel => exact ⟨i + 1, by first | rfl | go_num, by omega, Nat.le_refl _, HBZ⟩
                · have hltiz : ¬ (i : Int) < (an : Int) := by omega
                  have hmnm : mn ≤ 9223372036854775807 := by have := HP14.out; omega
                  go_wp2
                  go_loopg [23] mn (fun g2 v23 wz => ∃ v : Nat, v23 = .int .i64 v ∧ v ≤ mn ∧ mn - v ≤ g2 ∧ Hid (Below y8.heap.size y8 wz))
                  case atStart => exact ⟨0, rfl, Nat.zero_le _, by omega, HBZ⟩
                  case round =>
                    clear HBZ hltiz hin hg2
                    obtain ⟨v, rfl, hvn, hg2, HBZ⟩ := hrel
                    by_cases hltv : v < mn
                    · have hltvz : (v : Int) < (mn : Int) := by omega
                      by_cases hone : m = 1
                      · have honez : ((m : Int) == 1) = true := beq_iff_eq.2 (by omega)
                        have hv1 := HC.out.one hone v hltv
                        obtain ⟨b1, hb1⟩ : ∃ b, b = decide ((v : Int) ∈ L) := ⟨_, rfl⟩
                        have CH1 : Hid _ := hasD (.slice lo ln lc) L (v : Int) wr (HLR.out wr HBZ.out)
                        have CH2 : Hid _ := hasD (.slice ko kn kc) L0 (v : Int) wr (HL6.out wr (bstepB HB8.out HBZ.out))
                        rw [← hb1] at CH1
                        have hb2 : decide ((v : Int) ∈ L0) = !b1 := by
                          rw [hb1]
                          by_cases h9 : (v : Int) ∈ L0
                          · rw [decide_eq_true h9, decide_eq_false (fun h => hv1.1 h h9)]; rfl
                          · rw [decide_eq_false h9, decide_eq_true (hv1.2 h9)]; rfl
                        rw [hb2] at CH2
                        clear hv1 hb1 hb2 hone
                        cases b1 with
                        | true =>
                          go_wp2_with fail
                          refine Calls.mono CH1.out ?_
                          rintro e yy ⟨rfl, hyy⟩
                          rw [hyy]
                          clear CH1 hyy yy
                          go_wp2_with fail
                          refine Calls.mono CH2.out ?_
                          rintro e yy ⟨rfl, hyy⟩
                          rw [hyy]
                          clear CH2 hyy yy
                          go_wp2
                          go_roundg (mn - (v + 1))
                          case measure => omega
                          case rel => exact ⟨v + 1, by first | rfl | go_num, by omega, Nat.le_refl _, HBZ⟩
                        | false =>
                          go_wp2_with fail
                          refine Calls.mono CH1.out ?_
                          rintro e yy ⟨rfl, hyy⟩
                          rw [hyy]
                          clear CH1 hyy yy
                          go_wp2_with fail
                          refine Calls.mono CH2.out ?_
                          rintro e yy ⟨rfl, hyy⟩
                          rw [hyy]
                          clear CH2 hyy yy
                          go_wp2
                          go_roundg (mn - (v + 1))
                          case measure => omega
                          case rel => exact ⟨v + 1, by first | rfl | go_num, by omega, Nat.le_refl _, HBZ⟩
                      · have honez : ((m : Int) == 1) = false := beq_eq_false_iff_ne.2 (by omega)
                        have HBR : Hid (Below y6.heap.size y6 wr) := bstepB HB8.out HBZ.out
                        go_wp2
                        go_roundg (4 - (m + 1))
                        case measure => omega
                        case rel => exact ⟨m + 1, by first | rfl | go_num, by omega, by omega, Nat.le_refl _, HBR⟩
                    · have hltvz : ¬ (v : Int) < (mn : Int) := by omega
                      have HBR : Hid (Below y6.heap.size y6 wr) := bstepB HB8.out HBZ.out
                      go_wp2
                      go_roundg (4 - (m + 1))
                      case measure => omega
                      case rel => exact ⟨m + 1, by first | rfl | go_num, by omega, by omega, Nat.le_refl _, HBR⟩
        · have hltz : ¬ (m : Int) < 4 := by omega
          have HBF : Hid (Below w.heap.size w wr) := bstepB B6.out HB.out
          go_wp2
          go_ret
          exact ⟨rfl, HBF.out⟩
end Go.Proofs.YtcoiapgfaibkgabGreat
