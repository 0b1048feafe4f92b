/-
  Proved here: the law that holds what is kept with apart against what package sep says of a new point, walked.
  Proved here: rows of rows of numbers that are handed in can be read; and the bound on what they hold.
  Proved here: a row of numbers that is handed in can be read; and the bound on what it holds.
-/
import Derived.Test.YtcoiapgfaibkgabGreatPrXAll
import Derived.Test.YtcoiapgfaibkgabGreatDagHAll
import Derived.Test.YtcoiapgfaibkgabGreatRows
import Derived.Deep.Matrix
namespace Go.Proofs.YtcoiapgfaibkgabGreat
set_option linter.unusedVariables false
open Go.RowKit Go.Shelf Go.Sort Go.Lib
theorem opn_yes {a G : List Int} {i : Nat} {x : Int} (h : a[i]? = some x) (hx : x ∉ G) : opn (a.take (i + 1)) G = opn (a.take i) G ++ [x] := by
  unfold opn
  rw [List.take_add_one, h, List.filter_append]
  simp [hx]
theorem opn_no {a G : List Int} {i : Nat} {x : Int} (h : a[i]? = some x) (hx : x ∈ G) : opn (a.take (i + 1)) G = opn (a.take i) G := by
  unfold opn
  rw [List.take_add_one, h, List.filter_append]
  simp [hx]
theorem below_grown0 {w w' : World} {v : Value} (hg : w.grownBy w' v.ownBlock) (hv : v.ownBlock = none) : Below w.heap.size w w' := ⟨hg.os, hg.tape, hg.output, hg.size, fun q hq => hg.block q hq (by rw [hv]; simp)⟩
set_option maxRecDepth 1000000 in
set_option maxHeartbeats 12800000 in
theorem pruneApart_top (pv : Value) (pvs : List Value) (P : List (List Int)) (av : Value) (a : List Int) (qv : Value) (G : List Int) (w : World) (h : RRD w pv pvs P) (hbl : ∀ i, (P.getD i []).length ≤ 1048576) (ha : RG (Value.int .i64) w av a) (hal : a.length ≤ 1048576) (hq : RG (Value.int .i64) w qv G) (hql : G.length ≤ 1048576) :
    Calls Tryz.prog 5 #[pv, av, qv] w fun e w' => e = .returned (.bool true) ∧ Below w.heap.size w w' := by
  obtain ⟨i0, hi, hz0, hz1, hz2⟩ := info_parts Tryz.infoI
  obtain ⟨i1, hi1, ha0, ha1, ha2⟩ := info_parts Tryz.infoRD
  obtain ⟨po, pn, pc, rfl⟩ : ∃ o n c, pv = .slice o n c := by obtain ⟨ao, cap, e⟩ := h.out.sl; exact ⟨_, _, _, e⟩
  have hn : P.length = pn := by rw [← h.len, h.out.len]
  obtain ⟨ao, an, ac, rfl⟩ : ∃ o n c, av = .slice o n c := by obtain ⟨ao, cap, e⟩ := ha.sl; exact ⟨_, _, _, e⟩
  obtain ⟨qo, qn, qc, rfl⟩ : ∃ o n c, qv = .slice o n c := by obtain ⟨ao, cap, e⟩ := hq.sl; exact ⟨_, _, _, e⟩
  have CA : Hid _ := alive17 w
  have HR : Hid (∀ W, Below w.heap.size w W → RRD W (.slice po pn pc) pvs P) := fun W hW => h.below (Nat.le_refl _) hW
  have HA : Hid (∀ W, Below w.heap.size w W → RG (Value.int .i64) W (.slice ao an ac) a) := fun W hW => ha.below (Nat.le_refl _) hW
  have HQ : Hid (∀ W, Below w.heap.size w W → RG (Value.int .i64) W (.slice qo qn qc) G) := fun W hW => hq.below (Nat.le_refl _) hW
  have HN : Hid (P.length = pn) := hn
  have HAN : Hid (a.length = an) := ha.len
  have HQN : Hid (G.length = qn) := hq.len
  have HBL0 : Hid (∀ i, (P.getD i []).length ≤ 1048576) := hbl
  clear h hn hbl ha hal hq hql
  go_enter Tryz.func5, Tryz.ntmps5
  go_wp2_with fail
  refine Calls.mono CA.out ?_
  rintro e y1 ⟨rfl, b1⟩
  have B1 : Hid (Below w.heap.size w y1) := b1
  have CM : Hid _ := many17 (.slice po pn pc) pvs P y1 (HR.out y1 b1) HBL0.out
  clear CA b1
  go_wp2_with fail
  refine Calls.mono CM.out ?_
  clear CM
  rintro e y ⟨rfl, hy0⟩
  rw [hy0]
  clear hy0 y
  rcases hm : manyC P with _ | _
  case true =>
    clear hm
    go_wp2
    go_ret
    exact ⟨rfl, B1.out⟩
  obtain ⟨hm1, hm2⟩ := many17_no hm
  rw [HN.out] at hm1
  have HP14 : Hid (pn ≤ 14) := hm1
  have HBL : Hid (∀ i, (P.getD i []).length ≤ 100000) := fun i => by have := len_smB P i; omega
  clear hm hm1 hm2 HBL0
  by_cases hbig : 100 < an
  · have hb1 : (100 : Int) < (an : Int) := by omega
    have hb2 : (an : Int) > 100 := by omega
    go_wp2
    go_ret
    exact ⟨rfl, B1.out⟩
  have hb1 : ¬ (100 : Int) < (an : Int) := by omega
  have HA100 : Hid (an ≤ 100) := by show _ ≤ _; omega
  clear hbig
  by_cases hbig : 100 < qn
  · have hb3 : (100 : Int) < (qn : Int) := by omega
    have hb4 : (qn : Int) > 100 := by omega
    go_wp2
    go_ret
    exact ⟨rfl, B1.out⟩
  have hb3 : ¬ (100 : Int) < (qn : Int) := by omega
  have HQ100 : Hid (qn ≤ 100) := by show _ ≤ _; omega
  clear hbig
  have CK : Hid _ := keptS (.slice po pn pc) (.slice ao an ac) (.slice qo qn qc) false true pvs P a G y1 (HR.out y1 B1.out) pn HN.out (by have := HP14.out; omega) HBL.out (HA.out y1 B1.out) (by have := HA100.out; rw [HAN.out]; omega) (HQ.out y1 B1.out) (by have := HQ100.out; rw [HQN.out]; omega)
  go_wp2_with fail
  refine Calls.mono CK.out ?_
  rintro e y2 ⟨⟨ko, kn, kc, L, rfl, hL, her, hok⟩, hy2⟩
  have B2 : Hid (Below w.heap.size w y2) := bstepB B1.out hy2
  clear CK hy2 hb1 hb3
  by_cases h0 : nsE P pn (a ++ G) = 0
  case neg =>
    obtain ⟨c, hc⟩ : ∃ c, c = nsE P pn (a ++ G) := ⟨_, rfl⟩
    rw [← hc] at h0 ⊢
    have hcz : (c != (0 : Int)) = true := by simpa using h0
    clear hc h0 her hok hL
    go_wp2
    go_ret
    exact ⟨rfl, B2.out⟩
  obtain ⟨hck, hna, hng⟩ := ns_both h0
  rw [← HN.out] at hna hng
  have HCK : Hid (ckE P = 0) := hck
  have HNA : Hid (noPts (P.length : Int) a = false) := hna
  have HNG : Hid (noPts (P.length : Int) G = false) := hng
  have HL : Hid (∀ W, Below y2.heap.size y2 W → RG (Value.int .i64) W (.slice ko kn kc) L) := fun W hW => hL.rg.below (Nat.le_refl _) hW
  have HLM : Hid (∀ v : Nat, v < pn → ((v : Int) ∈ L ↔ TabM P a G (v : Int))) := fun v hv => by
    rw [(hok h0).2 (v : Int)]
    constructor
    · rintro ⟨k, e, -, -, ht⟩; exact ht rfl
    · exact fun ht => ⟨v, rfl, hv, fun h => by simp at h, fun _ => ht⟩
  rw [h0]
  clear h0 hck hna hng her hok hL
  have HB0 : Hid (Below y2.heap.size y2 y2) := Below.refl _ _
  have hanm : an ≤ 9223372036854775807 := by have := HA100.out; omega
  go_wp2
  go_loopg [10, 11] an (fun g1 v10 v11 wr => ∃ (i : Nat) (lo : Option Addr) (ln lc : Nat), v10 = .slice lo ln lc ∧ v11 = .int .i64 i ∧ i ≤ an ∧ an - i ≤ g1 ∧ Hid (OG (Value.int .i64) y2.heap.size 3 wr (.slice lo ln lc) (opn (a.take i) G)) ∧ Hid (Below y2.heap.size y2 wr))
  case atStart => exact ⟨0, none, 0, 0, rfl, rfl, Nat.zero_le _, by omega, OG.nil _ _ _, HB0⟩
  case round =>
    clear HB0
    obtain ⟨i, lo, ln, lc, rfl, rfl, hin, hg1, HO, HB⟩ := hrel
    by_cases hlt : i < an
    · have hltz : (i : Int) < (an : Int) := by omega
      obtain ⟨x, gx, ox, hx1, rfl, hx2⟩ := (HA.out wr (bstepB B2.out HB.out)).at hlt
      change wr.cell? ⟨gx, ox + i, none⟩ = some (.int .i64 x) at hx2
      have HX1 : Hid (a[i]? = some x) := hx1
      have CH : Hid _ := hasD (.slice qo qn qc) G x wr (HQ.out wr (bstepB B2.out HB.out))
      obtain ⟨b, hb⟩ : ∃ b, b = decide (x ∈ G) := ⟨_, rfl⟩
      rw [← hb] at CH
      have HBB : Hid (b = decide (x ∈ G)) := hb
      clear hx1 hb
      go_wp2_with fail
      refine Calls.mono CH.out ?_
      rintro e y ⟨rfl, hy⟩
      rw [hy]
      clear CH hy y
      cases b with
      | true =>
        have HO2 : Hid (OG (Value.int .i64) y2.heap.size 3 wr (.slice lo ln lc) (opn (a.take (i + 1)) G)) := by show OG _ _ _ _ _ _; rw [opn_no HX1.out (of_decide_eq_true HBB.out.symm)]; exact HO.out
        clear HO HBB HX1
        go_wp2
        clear hx2
        go_roundg (an - (i + 1))
        case measure => omega
        case rel => exact ⟨i + 1, _, _, _, rfl, by first | rfl | go_num, by omega, Nat.le_refl _, HO2, HB⟩
      | false =>
        have HE : Hid (opn (a.take (i + 1)) G = opn (a.take i) G ++ [x]) := opn_yes HX1.out (of_decide_eq_false HBB.out.symm)
        have HLN : Hid ((opn (a.take i) G).length ≤ 100) := by show _ ≤ _; have h1 := opn_len (a.take i) G; rw [List.length_take] at h1; have := HA100.out; omega
        obtain ⟨WA, hWA⟩ : ∃ W, W = wr.alloc (.cells #[.int .i64 x] 3) := ⟨_, rfl⟩
        obtain ⟨gb, hgb⟩ : ∃ g, g = wr.heap.size := ⟨_, rfl⟩
        have HBA : Hid (Below wr.heap.size wr WA) := by show Below _ _ _; rw [hWA]; exact belowB _ _
        have HCB : Hid (WA.cell? ⟨gb, 0, none⟩ = some (.int .i64 x)) := by show _ = _; rw [hWA, hgb, World.cell?_alloc_at _ _ _ _ rfl]; rfl
        have HWA : Hid (WA = wr.alloc (.cells #[.int .i64 x] 3)) := hWA
        have HGB : Hid (gb = wr.heap.size) := hgb
        have HBW : Hid (Below y2.heap.size y2 WA) := bstepB HB.out HBA.out
        clear hWA hgb HBB HX1
        go_wp2_with (at_builtin; rw [← HWA.out, ← HGB.out]; refine wpList_pushV (enc := Value.int .i64) _ rfl _ _ 23 rfl y2.heap.size 3 i0 (.int .i64 0) 8 Tryz.underlying23 hi hz0 hz1 hz2 rfl _ (opn (a.take i) G) rfl (HO.out.below HBA.out) gb x rfl HCB.out rfl (by have := HLN.out; unfold maxLen; omega) (by have := HLN.out; omega) HBW.out.size ?_)
        intro ng tm ncap W2 ho hg3 hng _
        have HO2 : Hid (OG (Value.int .i64) y2.heap.size 3 W2 (.slice (some ⟨ng, 0, none⟩) tm ncap) (opn (a.take (i + 1)) G)) := by show OG _ _ _ _ _ _; rw [HE.out]; exact ho
        have HB2 : Hid (Below y2.heap.size y2 W2) := (HO.out.below HBA.out).grown HBW.out HBW.out.size hg3
        clear ho hg3 hng HO HB HBA HCB HWA HGB HBW HLN HE hx2
        go_wp2
        go_roundg (an - (i + 1))
        case measure => omega
        case rel => exact ⟨i + 1, _, _, _, rfl, by first | rfl | go_num, by omega, Nat.le_refl _, HO2, HB2⟩
    · have hltz : ¬ (i : Int) < (an : Int) := by omega
      obtain ⟨y3, rfl⟩ : ∃ W, W = wr := ⟨_, rfl⟩
      have hop : opn (a.take i) G = opn a G := by rw [List.take_of_length_le (by rw [HAN.out]; omega)]
      rw [hop] at HO
      have HOP : Hid (∀ W, Below y3.heap.size y3 W → RG (Value.int .i64) W (.slice lo ln lc) (opn a G)) := fun W hW => HO.out.rg.below (Nat.le_refl _) hW
      have B3 : Hid (Below w.heap.size w y3) := bstepB B2.out HB.out
      have HL3 : Hid (∀ W, Below y3.heap.size y3 W → RG (Value.int .i64) W (.slice ko kn kc) L) := fun W hW => HL.out W (bstepB HB.out hW)
      have HB3 : Hid (Below y3.heap.size y3 y3) := Below.refl _ _
      have hpnm : pn ≤ 9223372036854775807 := by have := HP14.out; omega
      clear hop HO HB HL hltz hin hg1 hanm
      go_wp2
      go_loopg [12, 13, 14, 15, 16, 17] pn (fun g1 v12 _v13 _v14 _v15 _v16 _v17 wr => ∃ v : Nat, v12 = .int .i64 v ∧ v ≤ pn ∧ pn - v ≤ g1 ∧ Hid (Below y3.heap.size y3 wr))
      case atStart => exact ⟨0, rfl, Nat.zero_le _, by omega, HB3⟩
      case round =>
        clear HB3
        obtain ⟨v, rfl, hvn, hg1, HB⟩ := hrel
        by_cases hltv : v < pn
        · have hltz : (v : Int) < (pn : Int) := by omega
          obtain ⟨wv, rfl⟩ : ∃ W, W = wr := ⟨_, rfl⟩
          have HBV : Hid (Below w.heap.size w wv) := bstepB B3.out HB.out
          have HOW0 : Hid (OwR wv.heap.size wv (.slice none 0 0) [] (wdK P v 0)) := OwR.nil _ _
          have HBZ0 : Hid (Below wv.heap.size wv wv) := Below.refl _ _
          go_wp2
          go_loopg [13, 14, 15] pn (fun g2 v13 v14 _v15 wz => ∃ (i : Nat) (uo : Option Addr) (un uc : Nat) (vs : List Value), v13 = .slice uo un uc ∧ v14 = .int .i64 i ∧ i ≤ pn ∧ pn - i ≤ g2 ∧ Hid (OwR wv.heap.size wz (.slice uo un uc) vs (wdK P v i)) ∧ Hid (Below wv.heap.size wv wz))
          case atStart => exact ⟨0, none, 0, 0, [], rfl, rfl, Nat.zero_le _, by omega, HOW0, HBZ0⟩
          case round =>
            clear HOW0 HBZ0
            obtain ⟨i, uo, un, uc, vs, rfl, rfl, hipn, hg2, HOW, HBZ⟩ := hrel
            by_cases hlti : i < pn
            · have hltiz : (i : Int) < (pn : Int) := by omega
              have hR := HR.out wr (bstepB HBV.out HBZ.out)
              obtain ⟨x, gp, op, hx1, rfl, hx2⟩ := hR.out.at hlti
              have hxr := hR.inn i x hx1
              obtain ⟨xo, xn, xc, rfl⟩ : ∃ o n c, x = .slice o n c := by obtain ⟨ao, cap, e⟩ := hxr.sl; exact ⟨_, _, _, e⟩
              change wr.cell? ⟨gp, op + i, none⟩ = some (.slice xo xn xc) at hx2
              have HXR : Hid (RG (Value.int .i64) wr (.slice xo xn xc) (P.getD i [])) := hxr
              have HXL : Hid ((P.getD i []).length ≤ 100000) := HBL.out i
              clear hR hx1 hxr
              go_wp2_with (at_builtin; refine wpList_appG _ (fun _ => rfl) rfl _ _ 23 rfl wr.heap.size 3 i0 (.int .i64 0) 8 Tryz.underlying23 hi hz0 hz1 hz2 rfl _ _ [] (P.getD i []) rfl (OG.nil _ _ _) rfl HXR.out (by have := HXL.out; unfold maxLen; simp only [List.length_nil]; omega) (by have := HXL.out; simp only [List.length_nil]; omega) (Nat.le_refl _) ?_)
              intro v0 y0 ho0 hg0
              obtain ⟨o0, n0, c0, rfl⟩ : ∃ o n c, v0 = .slice o n c := by obtain ⟨ao, cap, e, -⟩ := ho0.sl; exact ⟨_, _, _, e⟩
              have HO0 : Hid (OG (Value.int .i64) wr.heap.size 3 y0 (.slice o0 n0 c0) (P.getD i [])) := by show OG _ _ _ _ _ _; rw [List.getD_eq_getElem?_getD]; exact ho0
              have HB0 : Hid (Below wr.heap.size wr y0) := below_grown0 hg0 rfl
              clear ho0 hg0 hx2 HXR
              by_cases hiv : i = v
              case' pos =>
                have hivz : ((i : Int) == (v : Int)) = true := beq_iff_eq.2 (by omega)
                have HWR : Hid (wdR P v i = P.getD i [] ++ [(pn : Int)]) := by show _ = _; unfold wdR; rw [if_pos hiv, HN.out]
                obtain ⟨WA, hWA⟩ : ∃ W, W = y0.alloc (.cells #[.int .i64 (pn : Int)] 3) := ⟨_, rfl⟩
                obtain ⟨gb, hgb⟩ : ∃ g, g = y0.heap.size := ⟨_, rfl⟩
                have HBA : Hid (Below y0.heap.size y0 WA) := by show Below _ _ _; rw [hWA]; exact belowB _ _
                have HCB : Hid (WA.cell? ⟨gb, 0, none⟩ = some (.int .i64 (pn : Int))) := by show _ = _; rw [hWA, hgb, World.cell?_alloc_at _ _ _ _ rfl]; rfl
                have HWA : Hid (WA = y0.alloc (.cells #[.int .i64 (pn : Int)] 3)) := hWA
                have HGB : Hid (gb = y0.heap.size) := hgb
                have HBW : Hid (Below wr.heap.size wr WA) := bstepB HB0.out HBA.out
                clear hWA hgb hiv
                go_wp2_with (at_builtin; rw [← HWA.out, ← HGB.out]; refine wpList_pushV (enc := Value.int .i64) _ rfl _ _ 23 rfl wr.heap.size 3 i0 (.int .i64 0) 8 Tryz.underlying23 hi hz0 hz1 hz2 rfl _ (P.getD i []) rfl (HO0.out.below HBA.out) gb (pn : Int) rfl HCB.out rfl (by have := HXL.out; unfold maxLen; omega) (by have := HXL.out; omega) HBW.out.size ?_)
                intro ng tm ncap WX ho hg3 hng _
                have HX : Hid (OG (Value.int .i64) wr.heap.size 3 WX (.slice (some ⟨ng, 0, none⟩) tm ncap) (wdR P v i)) := by show OG _ _ _ _ _ _; rw [HWR.out]; exact ho
                have HBX : Hid (Below wr.heap.size wr WX) := (HO0.out.below HBA.out).grown HBW.out HBW.out.size hg3
                obtain ⟨zo, hzo⟩ : ∃ z, z = (some ⟨ng, 0, none⟩ : Option Addr) := ⟨_, rfl⟩
                rw [← hzo] at HX ⊢
                obtain ⟨zn, rfl⟩ : ∃ z, z = tm := ⟨_, rfl⟩
                obtain ⟨zc, rfl⟩ : ∃ z, z = ncap := ⟨_, rfl⟩
                clear ho hg3 hng HBA HCB HWA HGB HBW HWR HO0 HB0 hivz hzo
              case' neg =>
                have hivz : ((i : Int) == (v : Int)) = false := beq_eq_false_iff_ne.2 (by omega)
                obtain ⟨WX, rfl⟩ : ∃ W, W = y0 := ⟨_, rfl⟩
                have HX : Hid (OG (Value.int .i64) wr.heap.size 3 WX (.slice o0 n0 c0) (wdR P v i)) := by show OG _ _ _ _ _ _; unfold wdR; rw [if_neg hiv, List.append_nil]; exact HO0.out
                have HBX : Hid (Below wr.heap.size wr WX) := HB0.out
                obtain ⟨zo, rfl⟩ : ∃ z, z = o0 := ⟨_, rfl⟩
                obtain ⟨zn, rfl⟩ : ∃ z, z = n0 := ⟨_, rfl⟩
                obtain ⟨zc, rfl⟩ : ∃ z, z = c0 := ⟨_, rfl⟩
                clear HO0 HB0 hiv
              all_goals
                obtain ⟨WB, hWB⟩ : ∃ W, W = WX.alloc (.cells #[.slice zo zn zc] 23) := ⟨_, rfl⟩
                obtain ⟨gc, hgc⟩ : ∃ g, g = WX.heap.size := ⟨_, rfl⟩
                have hbb : Below WX.heap.size WX WB := by rw [hWB]; exact belowB _ _
                have HCC : Hid (WB.cell? ⟨gc, 0, none⟩ = some (id (.slice zo zn zc))) := by show _ = _; rw [hWB, hgc, World.cell?_alloc_at _ _ _ _ rfl]; rfl
                have HXB : Hid (OG (Value.int .i64) wv.heap.size 3 WB (.slice zo zn zc) (wdR P v i)) := (HX.out.mono HBZ.out.size).below hbb
                have HOB : Hid (OwR wv.heap.size WB (.slice uo un uc) vs (wdK P v i)) := (HOW.out.below HBX.out).below hbb
                have HBB : Hid (Below wv.heap.size wv WB) := bstepB (bstepB HBZ.out HBX.out) hbb
                have HWB : Hid (WB = WX.alloc (.cells #[.slice zo zn zc] 23)) := hWB
                have HGC : Hid (gc = WX.heap.size) := hgc
                have HVL : Hid (vs.length ≤ 14) := by show _ ≤ _; rw [HOW.out.len, wdK_len]; have := HP14.out; omega
                clear hWB hgc hbb HX HBX HOW HBZ
                go_wp2_with (at_builtin; rw [← HWB.out, ← HGC.out]; refine wpList_pushV (enc := id) _ rfl _ _ 22 rfl wv.heap.size 23 i1 (.slice none 0 0) 24 Tryz.underlying22 hi1 ha0 ha1 ha2 rfl _ vs rfl HOB.out.row gc (.slice zo zn zc) rfl HCC.out rfl (by have := HVL.out; unfold maxLen; omega) (by have := HVL.out; omega) HBB.out.size ?_)
                intro ng2 tm2 ncap2 W3 ho hg3 hng _
                have HO3 : Hid (OwR wv.heap.size W3 (.slice (some ⟨ng2, 0, none⟩) tm2 ncap2) (vs ++ [.slice zo zn zc]) (wdK P v (i + 1))) := by show OwR _ _ _ _ _; rw [wdK_step]; exact HOB.out.push ho hg3 HXB.out
                have HB4 : Hid (Below wv.heap.size wv W3) := HOB.out.row.grown HBB.out HBB.out.size hg3
                clear ho hg3 hng HOB HXB HCC HWB HGC HBB HVL
                go_wp2
                go_roundg (pn - (i + 1))
                case measure => omega
                case rel => exact ⟨i + 1, _, _, _, _, rfl, by first | rfl | go_num, by omega, Nat.le_refl _, HO3, HB4⟩
            · have hltiz : ¬ (i : Int) < (pn : Int) := by omega
              obtain rfl : i = pn := by omega
              have HVL : Hid (vs.length = i) := by show _ = _; rw [HOW.out.len, wdK_len]
              obtain ⟨WE, hWE⟩ : ∃ W, W = wr.alloc (.cells #[] 3) := ⟨_, rfl⟩
              obtain ⟨ge, hge⟩ : ∃ g, g = wr.heap.size := ⟨_, rfl⟩
              have hbe : Below wr.heap.size wr WE := by rw [hWE]; exact belowB _ _
              have hle : OG (Value.int .i64) wr.heap.size 3 WE (.slice (some ⟨ge, 0, none⟩) 0 0) [] := by rw [hWE, hge]; exact OG.lit (enc := Value.int .i64) 3 wr [] (by unfold maxLen; simp)
              obtain ⟨WB, hWB⟩ : ∃ W, W = WE.alloc (.cells #[.slice (some ⟨ge, 0, none⟩) 0 0] 23) := ⟨_, rfl⟩
              obtain ⟨gc, hgc⟩ : ∃ g, g = WE.heap.size := ⟨_, rfl⟩
              have hbb : Below WE.heap.size WE WB := by rw [hWB]; exact belowB _ _
              have HCC : Hid (WB.cell? ⟨gc, 0, none⟩ = some (id (.slice (some ⟨ge, 0, none⟩) 0 0))) := by show _ = _; rw [hWB, hgc, World.cell?_alloc_at _ _ _ _ rfl]; rfl
              have HXB : Hid (OG (Value.int .i64) wv.heap.size 3 WB (.slice (some ⟨ge, 0, none⟩) 0 0) []) := (hle.mono HBZ.out.size).below hbb
              have HOB : Hid (OwR wv.heap.size WB (.slice uo un uc) vs (wdK P v i)) := (HOW.out.below hbe).below hbb
              have HBB : Hid (Below wv.heap.size wv WB) := bstepB (bstepB HBZ.out hbe) hbb
              have HWB : Hid (WB = (wr.alloc (.cells #[] 3)).alloc (.cells #[.slice (some ⟨wr.heap.size, 0, none⟩) 0 0] 23)) := by show _ = _; rw [hWB, hWE, hge]
              have HGC : Hid (gc = wr.heap.size + 1) := by show _ = _; rw [hgc, hWE]; simp
              have HGE : Hid (ge = wr.heap.size) := hge
              clear hWE hbe hle hWB hgc hbb HOW HBZ hge hltiz
              go_wp2_with (at_builtin; rw [← HWB.out, ← HGC.out]; refine wpList_pushV (enc := id) _ rfl _ _ 22 rfl wv.heap.size 23 i1 (.slice none 0 0) 24 Tryz.underlying22 hi1 ha0 ha1 ha2 rfl _ vs rfl HOB.out.row gc (.slice (some ⟨ge, 0, none⟩) 0 0) rfl HCC.out rfl (by have := HVL.out; have := HP14.out; unfold maxLen; omega) (by have := HVL.out; have := HP14.out; omega) HBB.out.size ?_)
              intro ng2 tm2 ncap2 W3 ho hg3 hng _
              have hO3 : OwR wv.heap.size W3 (.slice (some ⟨ng2, 0, none⟩) tm2 ncap2) (vs ++ [.slice (some ⟨ge, 0, none⟩) 0 0]) (wdP P v) := by
                have h6 := HOB.out.push ho hg3 HXB.out
                unfold wdP; rw [HN.out]; exact h6
              have HB4 : Hid (Below wv.heap.size wv W3) := HOB.out.row.grown HBB.out HBB.out.size hg3
              obtain ⟨W5, hW5⟩ : ∃ W, W = W3.alloc (.cells #[.int .i64 (i : Int)] 3) := ⟨_, rfl⟩
              obtain ⟨g5, hg5⟩ : ∃ g, g = W3.heap.size := ⟨_, rfl⟩
              have hb5 : Below W3.heap.size W3 W5 := by rw [hW5]; exact belowB _ _
              have hl5 : RG (Value.int .i64) W5 (.slice (some ⟨g5, 0, none⟩) 1 1) [(i : Int)] := by rw [hW5, hg5]; exact (OG.lit (enc := Value.int .i64) 3 W3 [(i : Int)] (by unfold maxLen; simp)).rg
              have HB5 : Hid (Below wv.heap.size wv W5) := bstepB HB4.out hb5
              have hE := wd_ext HCK.out (v := v) (by rw [HN.out]; exact hltv)
              have hbw := bstepB HBV.out HB5.out
              have hb3 := bstepB HB.out HB5.out
              have CP : Hid _ := apartG (wdP P v) (hE.ck HCK.out) (by rw [wd_len, HN.out]; have := HP14.out; omega) (.slice (some ⟨ng2, 0, none⟩) tm2 ncap2) (.slice (some ⟨g5, 0, none⟩) 1 1) (.slice lo ln lc) (.slice qo qn qc) _ [(i : Int)] (opn a G) G W5 (hO3.rrd.below (Nat.le_refl _) hb5) hl5 (by simp) (HOP.out W5 hb3) (by have h7 := opn_len a G; rw [HAN.out] at h7; have := HA100.out; omega) (HQ.out W5 hbw) (by rw [HQN.out]; have := HQ100.out; omega) (by rw [wd_len, HN.out]; simp [noPts, noPt]; omega) (noPts_wide (opn_pts HNA.out) (by rw [wd_len]; omega)) (noPts_wide HNG.out (by rw [wd_len]; omega))
              have HTW : Hid ((∃ y ∈ opn a G, TelM (wdP P v) G (i : Int) y) ↔ TabM P a G (v : Int)) := by
                have h8 := tab_wid HCK.out HNA.out HNG.out (v := v) (by rw [HN.out]; exact hltv)
                rw [HN.out] at h8
                exact h8
              have HW5 : Hid (W5 = W3.alloc (.cells #[.int .i64 (i : Int)] 3)) := hW5
              have HG5 : Hid (g5 = W3.heap.size) := hg5
              clear ho hg3 hng HOB HXB HCC HWB HGC HBB HVL HGE hO3 hW5 hg5 hb5 hl5 hE hbw hb3
              go_wp2_with fail
              rw [← HW5.out, ← HG5.out]
              refine Calls.mono CP.out ?_
              rintro e y6 ⟨r, rfl, hr, by6⟩
              have HB6 : Hid (Below wv.heap.size wv y6) := bstepB HB5.out by6
              obtain ⟨b, hb⟩ : ∃ b, b = decide ((v : Int) ∈ L) := ⟨_, rfl⟩
              have CH : Hid _ := hasD (.slice ko kn kc) L (v : Int) y6 (HL3.out y6 (bstepB HB.out HB6.out))
              rw [← hb] at CH
              obtain rfl : r = !b := by
                rw [hb]
                have h9 := HLM.out v hltv
                have h10 : (∃ x ∈ [(i : Int)], ∃ y ∈ opn a G, TelM (wdP P v) G x y) ↔ TabM P a G (v : Int) := by rw [← HTW.out]; simp
                rw [h10, ← h9] at hr
                refine Bool.eq_iff_iff.2 (hr.trans ?_)
                simp
              clear CP hr by6 hb HTW HW5 HG5 HB5 HB4
              have HB7 : Hid (Below y3.heap.size y3 y6) := bstepB HB.out HB6.out
              clear HB HB6
              cases b with
              | true =>
                go_wp2_with fail
                refine Calls.mono CH.out ?_
                rintro e y ⟨rfl, hy⟩
                rw [hy]
                clear CH hy y
                go_wp2
                go_roundg (i - (v + 1))
                case measure => omega
                case rel => exact ⟨v + 1, by first | rfl | go_num, by omega, Nat.le_refl _, HB7⟩
              | false =>
                go_wp2_with fail
                refine Calls.mono CH.out ?_
                rintro e y ⟨rfl, hy⟩
                rw [hy]
                clear CH hy y
                go_wp2
                go_roundg (i - (v + 1))
                case measure => omega
                case rel => exact ⟨v + 1, by first | rfl | go_num, by omega, Nat.le_refl _, HB7⟩
        · have hltz : ¬ (v : Int) < (pn : Int) := by omega
          have HBF : Hid (Below w.heap.size w wr) := bstepB B3.out HB.out
          go_wp2
          go_ret
          exact ⟨rfl, HBF.out⟩
end Go.Proofs.YtcoiapgfaibkgabGreat

namespace Go.Proofs.YtcoiapgfaibkgabGreat
set_option linter.unusedVariables false
open Go.RowKit Go.ChangeShapes Go.Deep
theorem bulk_mem {H : Type} {d : DataW H} {l : List (DataW H)} (h : d ∈ l) : Rows.uptoBulk d ≤ Rows.uptoBulkAll l := by
  induction l with
  | nil => cases h
  | cons x r ih =>
    simp only [Rows.uptoBulkAll]
    rcases List.mem_cons.1 h with e | e
    · subst e; omega
    · have := ih e; omega
theorem bulk_pos {H : Type} (d : DataW H) : 1 ≤ Rows.uptoBulk d := by
  cases d with
  | lit l => cases l <;> simp [Rows.uptoBulk]
  | _ => simp [Rows.uptoBulk]
theorem bulk_len {H : Type} (l : List (DataW H)) : l.length ≤ Rows.uptoBulkAll l := by
  induction l with
  | nil => simp [Rows.uptoBulkAll]
  | cons x r ih => have := bulk_pos x; simp only [Rows.uptoBulkAll, List.length_cons]; omega
theorem addr_plain {w : World} {a : Addr} {v : Value} (h : w.cell? a = some v) {x : Addr} (e : a = x.add 0) : ∃ b o, x = ⟨b, o, none⟩ := by
  obtain ⟨b, off, spot⟩ := x
  subst e
  have hspot : spot = none := by
    have := World.cell?_spot h
    simpa [Addr.add] using this
  exact ⟨b, off, by rw [hspot]⟩
theorem rg_row {w : World} {ao : Option Addr} {l c : Nat} {zs : List Int} (hl : l ≤ c) (hm : c ≤ maxLen) (hz : zs.length = c) (hn : ao = none → c = 0) (hc : ∀ a, ao = some a → ∀ j, j < c → w.cell? (a.add j) = some (.int .i64 (zs.getD j 0))) : RG (Value.int .i64) w (.slice ao l c) (zs.take l) := by
  have hlen : (zs.take l).length = l := by rw [List.length_take]; omega
  refine ⟨ao, c, by rw [hlen], by rw [hlen]; exact hl, hm, hn, fun i x hx => ?_⟩
  have hi : i < l := by have := (List.getElem?_eq_some_iff.1 hx).1; omega
  cases ao with
  | none => have := hn rfl; omega
  | some a =>
    obtain ⟨b, o, rfl⟩ := addr_plain (hc a rfl 0 (by omega)) (x := a) rfl
    refine ⟨b, o, rfl, ?_⟩
    have h1 := hc _ rfl i (by omega)
    rw [Addr.add_lit] at h1
    rw [List.getElem?_take_of_lt hi] at hx
    rw [h1, List.getD_eq_getElem?_getD, hx]; rfl
theorem rrd_open {H : Type} {enc : TypeId × Value → H} {W : World} {base : Nat} {held : Bool} {fuel : Nat} {a : Option Addr} {len cap : Nat} {d : DataW H} {p : List MemPlace} (hf : DataW.trod enc Tryz.prog W base (fun _ => true) held fuel 22 (Value.cells (.slice a len cap)).toList = some (d, p)) (hbd : Rows.uptoBulk d ≤ 1048576) :
    ∃ pvs P, RRD W (.slice a len cap) pvs P ∧ ∀ i, (P.getD i []).length ≤ 1048576 := by
  rcases open_int_rows Tryz.underlying22 Tryz.underlying23 Tryz.underlying3 (by kernel_rfl) (by kernel_rfl) hf with ⟨hcs, _⟩ | ⟨a', l, c, A, L, C, Z, hcs, _, hl, hm, hx, hr⟩
  · simp [Value.cells] at hcs
    obtain ⟨rfl, rfl, rfl⟩ := hcs
    exact ⟨[], [], ⟨RG.nil _, rfl, fun i x h => by simp at h⟩, fun i => by simp⟩
  · simp [Value.cells] at hcs
    obtain ⟨rfl, rfl, rfl⟩ := hcs
    simp only [Prod.mk.injEq] at hx
    obtain ⟨hd, -⟩ := hx
    have hP : ∀ i, i < len → ((List.range len).map fun r => (Z r).take (L r)).getD i [] = (Z i).take (L i) := fun i hi => by
      rw [List.getD_eq_getElem?_getD, List.getElem?_map, List.getElem?_range hi]; rfl
    have hlp : ((List.range len).map fun r => Value.slice (A r) (L r) (C r)).length = len := by simp
    refine ⟨(List.range len).map fun r => Value.slice (A r) (L r) (C r), (List.range len).map fun r => (Z r).take (L r), ⟨?_, by simp, fun i x hi => ?_⟩, fun i => ?_⟩
    · refine ⟨some a', cap, by rw [hlp], by rw [hlp]; exact hl, hm, fun e => by simp at e, fun i x hi => ?_⟩
      have hil : i < len := by have := (List.getElem?_eq_some_iff.1 hi).1; rw [hlp] at this; exact this
      have h0 := (hr 0 (by omega)).1
      obtain ⟨b, o, rfl⟩ := addr_plain h0 (x := a') rfl
      have h1 := (hr i (by omega)).1
      rw [Addr.add_lit] at h1
      rw [List.getElem?_map, List.getElem?_range hil] at hi
      simp only [Option.map_some, Option.some.injEq] at hi
      subst hi
      exact ⟨b, o, rfl, h1⟩
    · have hil : i < len := by have := (List.getElem?_eq_some_iff.1 hi).1; rw [hlp] at this; exact this
      rw [List.getElem?_map, List.getElem?_range hil] at hi
      simp only [Option.map_some, Option.some.injEq] at hi
      subst hi
      rw [hP i hil]
      obtain ⟨-, r1, r2, r3, -, r5, r6⟩ := hr i (by omega)
      exact rg_row r1 r2 r3 r5 (fun a h j hj => (r6 a h).2 j hj)
    · by_cases hil : i < len
      · rw [hP i hil]
        obtain ⟨-, r1, r2, r3, -, r5, r6⟩ := hr i (by omega)
        cases hA : A i with
        | none => have := r5 hA; rw [List.length_take]; omega
        | some b =>
          have hmem : (intRow .i64 (A i) (L i) (Z i) : DataW H) ∈ (List.range len).map fun r => intRow .i64 (A r) (L r) (Z r) := List.mem_map.2 ⟨i, List.mem_range.2 hil, rfl⟩
          have h1 := bulk_mem hmem
          have h2 : Rows.uptoBulk d = _ := congrArg Rows.uptoBulk hd
          simp only [Rows.uptoBulk] at h2
          have e1 : (intRow .i64 (A i) (L i) (Z i) : DataW H) = .slice (lits .i64 ((Z i).take (L i))) (lits .i64 ((Z i).drop (L i))) := by rw [hA]; rfl
          have h5 : Rows.uptoBulk (intRow .i64 (A i) (L i) (Z i) : DataW H) = Rows.uptoBulkAll (lits (H := H) .i64 ((Z i).take (L i))) + Rows.uptoBulkAll (lits (H := H) .i64 ((Z i).drop (L i))) + 1 := by rw [e1]; simp only [Rows.uptoBulk]
          have h3 := bulk_len (lits (H := H) .i64 ((Z i).take (L i)))
          have h4 : (lits (H := H) .i64 ((Z i).take (L i))).length = ((Z i).take (L i)).length := by simp [lits]
          omega
      · rw [List.getD_eq_getElem?_getD, List.getElem?_eq_none (by simp; omega)]
        simp
end Go.Proofs.YtcoiapgfaibkgabGreat

namespace Go.Proofs.YtcoiapgfaibkgabGreat
set_option linter.unusedVariables false
open Go.RowKit Go.ChangeShapes Go.Deep
theorem rg_open {H : Type} {enc : TypeId × Value → H} {W : World} {base : Nat} {held : Bool} {fuel : Nat} {a : Option Addr} {len cap : Nat} {d : DataW H} {p : List MemPlace} (hf : DataW.trod enc Tryz.prog W base (fun _ => true) held fuel 23 (Value.cells (.slice a len cap)).toList = some (d, p)) (hbd : Rows.uptoBulk d ≤ 1048576) :
    ∃ zs, RG (Value.int .i64) W (.slice a len cap) zs ∧ zs.length ≤ 1048576 := by
  rcases open_ints Tryz.underlying23 Tryz.underlying3 (by kernel_rfl) hf with ⟨hcs, _⟩ | ⟨x, l, c, zs, hcs, _, hl, hm, hz, hd, hcell, hwz⟩
  · simp [Value.cells] at hcs
    obtain ⟨rfl, rfl, rfl⟩ := hcs
    exact ⟨[], RG.nil _, by simp⟩
  · simp [Value.cells] at hcs
    obtain ⟨rfl, rfl, rfl⟩ := hcs
    simp only [if_true] at hz
    refine ⟨zs.take len, rg_row hl hm hz (fun e => by simp at e) (fun a ha j hj => ?_), ?_⟩
    · simp only [Option.some.injEq] at ha
      rw [← ha]; exact hcell j (by omega)
    · simp only [Prod.mk.injEq] at hd
      have h2 : Rows.uptoBulk d = _ := congrArg Rows.uptoBulk hd.1
      simp only [Rows.uptoBulk] at h2
      have h3 := bulk_len (lits (H := H) .i64 (zs.take len))
      have h4 : (lits (H := H) .i64 (zs.take len)).length = (zs.take len).length := by simp [lits]
      omega
end Go.Proofs.YtcoiapgfaibkgabGreat
