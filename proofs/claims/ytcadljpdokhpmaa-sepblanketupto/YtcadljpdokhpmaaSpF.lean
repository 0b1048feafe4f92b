/-
  Proved here: the document's Blanket of layer 16.
-/
import Derived.Test.YtcadljpdokhpmaaSpE
import Derived.Test.YtcadljpdokhpmaaDagY
namespace Go.Proofs.Ytcadljpdokhpmaa
set_option linter.unusedVariables false
open Go.RowKit
set_option maxRecDepth 1000000 in
set_option maxHeartbeats 6400000 in
theorem refBlanket (pv : Value) (pvs : List Value) (P : List (List Int)) (w : World) (h : RRD w pv pvs P) (n : Nat) (hn : P.length = n) (hb : n ≤ 300) (a : Int) :
    Calls Try.prog 5 #[pv, .int .i64 a] w fun e w' => ∃ v, e = .returned (.tuple #[v, .int .i64 (blE P n a)]) ∧ OG (Value.int .i64) w.heap.size 3 w' v (blR P n a) ∧ Below w.heap.size w w' := by
  obtain ⟨i0, hi, hz0, hz1, hz2⟩ := info_parts Try.infoI
  obtain ⟨po, pn, pc, rfl⟩ : ∃ o n c, pv = .slice o n c := by obtain ⟨ao, cap, e⟩ := h.out.sl; exact ⟨_, _, _, e⟩
  obtain rfl : pn = n := by rw [← hn, ← h.len, h.out.len]
  obtain ⟨WA, hWA⟩ : ∃ W, W = w.alloc (.cells #[.int .i64 a] 3) := ⟨_, rfl⟩
  obtain ⟨gb, hgb⟩ : ∃ g, g = w.heap.size := ⟨_, rfl⟩
  have hBA : Below w.heap.size w WA := by rw [hWA]; exact belowB _ _
  have hlit : OG (Value.int .i64) w.heap.size 3 WA (.slice (some ⟨gb, 0, none⟩) 1 1) [a] := by rw [hWA, hgb]; exact OG.lit 3 w [a] (by unfold maxLen; simp)
  have CB : Hid _ := refBad (.slice po pn pc) pvs P WA (h.below (Nat.le_refl _) hBA) pn hn (by omega) _ [a] hlit.rg
  rw [← blE_bd] at CB
  have HWA : Hid (WA = w.alloc (.cells #[.int .i64 a] 3)) := hWA
  have HGB : Hid (gb = w.heap.size) := hgb
  have HBA : Hid (Below w.heap.size w WA) := hBA
  have HR : Hid (RRD w (.slice po pn pc) pvs P) := h
  have HN : Hid (P.length = pn) := hn
  clear h hn hWA hgb hBA hlit
  go_enter Try.func5, Try.ntmps5
  go_wp2_with fail
  rw [← HWA.out, ← HGB.out]
  refine Calls.mono CB.out ?_
  rintro e y ⟨rfl, hy⟩
  have HB : Hid (Below w.heap.size w y) := bstepB HBA.out hy
  clear CB hy HBA HWA HGB
  by_cases h0 : blE P pn a = 0
  · have hck : ckE P = 0 := by
      unfold blE at h0
      by_cases h1 : ckE P = 0
      · exact h1
      · rw [if_pos h1] at h0; exact h0
    have hpt : noPt (pn : Int) a = false := by
      unfold blE at h0
      rw [if_neg (by rw [hck]; decide)] at h0
      cases h2 : noPt (pn : Int) a with
      | false => rfl
      | true => rw [h2] at h0; simp at h0
    obtain ⟨an, rfl, han⟩ : ∃ an : Nat, a = (an : Int) ∧ an < pn := by
      unfold noPt at hpt
      simp only [Bool.or_eq_false_iff, decide_eq_false_iff_not] at hpt
      exact ⟨a.toNat, by omega, by omega⟩
    have HZ := cl_zero (ck_zero hck)
    have HRE : Hid (blR P pn (an : Int) = nrL P an pn pn) := by
      show _ = _
      unfold blR
      rw [if_pos h0, nrL_near HN.out han (fun i x hx => by have := outs_no HZ.1 i x hx; rw [HN.out] at this; exact this)]
      rfl
    have HE : Hid (blE P pn (an : Int) = 0) := h0
    rw [h0]
    have haz : (an : Int) < (pn : Int) := by omega
    obtain ⟨x, gp, op, hx1, rfl, hx0⟩ := HR.out.out.at han
    have hxr := HR.out.inn an x hx1
    obtain ⟨xo, xn, xc, rfl⟩ : ∃ o n c, x = .slice o n c := by obtain ⟨ao, cap, e⟩ := hxr.sl; exact ⟨_, _, _, e⟩
    change w.cell? ⟨gp, op + an, none⟩ = some (.slice xo xn xc) at hx0
    have HX0 : Hid (w.cell? ⟨gp, op + an, none⟩ = some (.slice xo xn xc)) := hx0
    have HXR : Hid (RG (Value.int .i64) w (.slice xo xn xc) (P.getD an [])) := hxr
    have HCELL : Hid (∀ q, q < pn → ∃ uo un uc, w.cell? ⟨gp, op + q, none⟩ = some (.slice uo un uc) ∧ RG (Value.int .i64) w (.slice uo un uc) (P.getD q [])) := fun q hq => by
      obtain ⟨u, gu, ou, hu1, hu3, hu2⟩ := HR.out.out.at hq
      simp only [Option.some.injEq, Addr.mk.injEq, and_true] at hu3
      obtain ⟨rfl, rfl⟩ := hu3
      have hur := HR.out.inn q u hu1
      obtain ⟨uo, un, uc, rfl⟩ : ∃ o n c, u = .slice o n c := by obtain ⟨ao, cap, e⟩ := hur.sl; exact ⟨_, _, _, e⟩
      exact ⟨uo, un, uc, hu2, hur⟩
    clear HZ hck hpt hx1 hxr hx0 h0
    go_wp2
    go_loopg [7, 8, 9, 10, 11] pn (fun g1 v7 v8 _v9 _v10 _v11 wr => ∃ (p : Nat) (lo : Option Addr) (ln lc : Nat), v7 = .slice lo ln lc ∧ v8 = .int .i64 p ∧ p ≤ pn ∧ pn - p ≤ g1 ∧ Hid (OG (Value.int .i64) w.heap.size 3 wr (.slice lo ln lc) (nrL P an pn p)) ∧ Hid (Below w.heap.size w wr))
    case atStart => exact ⟨0, none, 0, 0, rfl, rfl, Nat.zero_le _, by omega, OG.nil _ _ _, HB⟩
    case round =>
      clear HB
      obtain ⟨p, lo, ln, lc, rfl, rfl, hpn, hg1, HO, HB⟩ := hrel
      by_cases hlt : p < pn
      · have hltz : (p : Int) < (pn : Int) := by omega
        obtain ⟨uo, un, uc, hu0, hur⟩ := HCELL.out p hlt
        have hx2 : wr.cell? ⟨gp, op + an, none⟩ = some (.slice xo xn xc) := keepR HB.out HX0.out
        have hu2 : wr.cell? ⟨gp, op + p, none⟩ = some (.slice uo un uc) := keepR HB.out hu0
        have C1 : Hid _ := hasD _ _ (p : Int) wr (HXR.out.below (Nat.le_refl _) HB.out)
        have C2 : Hid _ := hasD _ _ (an : Int) wr (hur.below (Nat.le_refl _) HB.out)
        obtain ⟨nr, hnr⟩ : ∃ b, b = nrB P an p 0 := ⟨_, rfl⟩
        have HNR : Hid (nr = nrB P an p 0) := hnr
        have hnr2 := hnr.trans (nrB_zero P an p)
        clear hur hu0 hnr
        go_upto_region 8 with fail
        go_cut [9] from 25 to 38 (fun v9 wx => v9 = .bool nr ∧ wx = wr)
        case first =>
          go_wp2_with fail
          refine Calls.mono C1.out ?_
          rintro e y ⟨rfl, hy⟩
          subst hy
          cases h1 : decide ((p : Int) ∈ P.getD an []) with
          | true =>
            rw [h1, Bool.true_or] at hnr2
            go_wp2
            go_meet
            exact ⟨by first | (rw [hnr2]; done) | (rw [hnr2]; rfl), rfl⟩
          | false =>
            rw [h1, Bool.false_or] at hnr2
            go_wp2_with fail
            refine Calls.mono C2.out ?_
            rintro e y ⟨rfl, hy⟩
            subst hy
            go_wp2
            go_meet
            exact ⟨by first | (rw [hnr2]; done) | (rw [hnr2]; rfl), rfl⟩
        case rest =>
          obtain ⟨rfl, hwc⟩ := hcut
          obtain rfl := hwc.symm
          clear C1 C2 hx2 hu2 hnr2
          have HNR2 : Hid (nr = nrB P an p 0) := HNR
          go_wp2
          go_loopg [9, 10, 11] pn (fun g2 v9 v10 _v11 wy => ∃ (c : Nat) (b : Bool), v9 = .bool b ∧ v10 = .int .i64 c ∧ c ≤ pn ∧ pn - c ≤ g2 ∧ Hid (b = nrB P an p c) ∧ wy = wr)
          case atStart => exact ⟨0, nr, rfl, rfl, Nat.zero_le _, by omega, HNR, rfl⟩
          case round =>
            clear HNR HNR2
            obtain ⟨c, b, rfl, rfl, hcn, hg2, HBC, rfl⟩ := hrel
            by_cases hlc : c < pn
            · have hltc : (c : Int) < (pn : Int) := by omega
              obtain ⟨uo, un, uc, hu0, hur⟩ := HCELL.out c hlc
              have hu2 : wr.cell? ⟨gp, op + c, none⟩ = some (.slice uo un uc) := keepR HB.out hu0
              have C1 : Hid _ := hasD _ _ (an : Int) wr (hur.below (Nat.le_refl _) HB.out)
              have C2 : Hid _ := hasD _ _ (p : Int) wr (hur.below (Nat.le_refl _) HB.out)
              have HS : Hid (nrB P an p (c + 1) = (b || (decide ((an : Int) ∈ P.getD c []) && decide ((p : Int) ∈ P.getD c [])))) := by show _ = _; rw [HBC.out]; exact nrB_succ P an p c
              clear hur hu0 HBC
              go_wp2_with fail
              refine Calls.mono C1.out ?_
              rintro e y ⟨rfl, hy⟩
              rw [hy]
              clear hy y C1
              generalize decide ((an : Int) ∈ P.getD c []) = b1 at *
              cases b1 with
              | false =>
                rw [Bool.false_and, Bool.or_false] at HS
                cases b with
                | true =>
                  go_wp2
                  clear hu2
                  go_roundg (pn - (c + 1))
                  case measure => omega
                  case rel => exact ⟨c + 1, true, rfl, by first | rfl | go_num, by omega, Nat.le_refl _, HS.out.symm, rfl⟩
                | false =>
                  go_wp2
                  clear hu2
                  go_roundg (pn - (c + 1))
                  case measure => omega
                  case rel => exact ⟨c + 1, false, rfl, by first | rfl | go_num, by omega, Nat.le_refl _, HS.out.symm, rfl⟩
              | true =>
                rw [Bool.true_and] at HS
                generalize decide ((p : Int) ∈ P.getD c []) = b2 at *
                go_wp2_with fail
                refine Calls.mono C2.out ?_
                rintro e y ⟨rfl, hy⟩
                rw [hy]
                clear hy y C2
                cases b with
                | true =>
                  rw [Bool.true_or] at HS
                  go_wp2
                  clear hu2
                  go_roundg (pn - (c + 1))
                  case measure => omega
                  case rel => exact ⟨c + 1, true, rfl, by first | rfl | go_num, by omega, Nat.le_refl _, HS.out.symm, rfl⟩
                | false =>
                  rw [Bool.false_or] at HS
                  go_wp2
                  clear hu2
                  go_roundg (pn - (c + 1))
                  case measure => omega
                  case rel => exact ⟨c + 1, b2, rfl, by first | rfl | go_num, by omega, Nat.le_refl _, HS.out.symm, rfl⟩
            · have hltc : ¬ (c : Int) < (pn : Int) := by omega
              obtain rfl : c = pn := by omega
              have HS := nrL_succ P an c p
              have HST : Hid (nrL P an c (p + 1) = nrL P an c p ++ if (nrB P an p c && !(p == an)) = true then [(p : Int)] else []) := HS
              clear HS
              cases b with
              | false =>
                have HS2 : Hid (nrL P an c (p + 1) = nrL P an c p) := by
                  show _ = _
                  rw [HST.out, ← HBC.out]; simp
                have HO2 : Hid (OG (Value.int .i64) w.heap.size 3 wr (.slice lo ln lc) (nrL P an c (p + 1))) := by show OG _ _ _ _ _ _; rw [HS2.out]; exact HO.out
                clear HST HBC HS2 HO
                go_wp2
                go_roundg (c - (p + 1))
                case measure => omega
                case rel => exact ⟨p + 1, _, _, _, rfl, by first | rfl | go_num, by omega, Nat.le_refl _, HO2, HB⟩
              | true =>
                by_cases hpa : p = an
                · have HS2 : Hid (nrL P an c (p + 1) = nrL P an c p) := by
                    show _ = _
                    rw [HST.out, ← HBC.out, hpa]; simp
                  have HO2 : Hid (OG (Value.int .i64) w.heap.size 3 wr (.slice lo ln lc) (nrL P an c (p + 1))) := by show OG _ _ _ _ _ _; rw [HS2.out]; exact HO.out
                  have hpz : ((p : Int) != (an : Int)) = false := by rw [hpa]; simp
                  clear HST HBC HS2 HO hpa
                  go_wp2
                  go_roundg (c - (p + 1))
                  case measure => omega
                  case rel => exact ⟨p + 1, _, _, _, rfl, by first | rfl | go_num, by omega, Nat.le_refl _, HO2, HB⟩
                · have HS2 : Hid (nrL P an c (p + 1) = nrL P an c p ++ [(p : Int)]) := by
                    show _ = _
                    rw [HST.out, ← HBC.out]; simp [hpa]
                  have hpz : ((p : Int) != (an : Int)) = true := by
                    have : ¬ ((p : Int) = (an : Int)) := by omega
                    simpa using this
                  have HLN : Hid ((nrL P an c p).length ≤ 300) := by show _ ≤ _; have := nrL_len P an c p; omega
                  obtain ⟨WA, hWA⟩ : ∃ W, W = wr.alloc (.cells #[.int .i64 (p : Int)] 3) := ⟨_, rfl⟩
                  obtain ⟨gq, hgq⟩ : ∃ g, g = wr.heap.size := ⟨_, rfl⟩
                  have HBA : Hid (Below wr.heap.size wr WA) := by show Below _ _ _; rw [hWA]; exact belowB _ _
                  have HCB : Hid (WA.cell? ⟨gq, 0, none⟩ = some (.int .i64 (p : Int))) := by show _ = _; rw [hWA, hgq, World.cell?_alloc_at _ _ _ _ rfl]; rfl
                  have HWA : Hid (WA = wr.alloc (.cells #[.int .i64 (p : Int)] 3)) := hWA
                  have HGB : Hid (gq = wr.heap.size) := hgq
                  have HBW : Hid (Below w.heap.size w WA) := bstepB HB.out HBA.out
                  clear HST HBC hpa hWA hgq
                  go_wp2_with (at_builtin; rw [← HWA.out, ← HGB.out]; refine wpList_pushV (enc := Value.int .i64) _ rfl _ _ 24 rfl w.heap.size 3 i0 (.int .i64 0) 8 Try.underlying24 hi hz0 hz1 hz2 rfl _ (nrL P an c p) rfl (HO.out.below HBA.out) gq (p : Int) rfl HCB.out rfl (by have := HLN.out; unfold maxLen; omega) (by have := HLN.out; omega) HBW.out.size ?_)
                  intro ng tm ncap W2 ho hg3 hng _
                  have HO2 : Hid (OG (Value.int .i64) w.heap.size 3 W2 (.slice (some ⟨ng, 0, none⟩) tm ncap) (nrL P an c (p + 1))) := by show OG _ _ _ _ _ _; rw [HS2.out]; exact ho
                  have HB2 : Hid (Below w.heap.size w W2) := (HO.out.below HBA.out).grown HBW.out HBW.out.size hg3
                  clear ho hg3 hng HO HB HBA HCB HWA HGB HBW HS2 HLN
                  go_wp2
                  go_roundg (c - (p + 1))
                  case measure => omega
                  case rel => exact ⟨p + 1, _, _, _, rfl, by first | rfl | go_num, by omega, Nat.le_refl _, HO2, HB2⟩
      · have hltz : ¬ (p : Int) < (pn : Int) := by omega
        obtain rfl : p = pn := by omega
        go_wp2
        go_ret2
        exact ⟨_, by rw [HE.out]; rfl, by rw [HRE.out]; exact HO.out, HB.out⟩
  · have HRE : Hid (blR P pn a = []) := by show _ = _; unfold blR; rw [if_neg h0]
    obtain ⟨c, hc⟩ : ∃ c, c = blE P pn a := ⟨_, rfl⟩
    rw [← hc] at h0 ⊢
    have HC : Hid (c = blE P pn a) := hc
    have hcz : (c != (0 : Int)) = true := by simpa using h0
    clear hc h0
    go_wp2
    go_ret2
    exact ⟨_, by rw [← HC.out]; rfl, by rw [HRE.out]; exact OG.nil _ _ _, HB.out⟩
end Go.Proofs.Ytcadljpdokhpmaa
