/-
  Proved here: package dag's checkLists: what is wrong with parents, ways that lead back left aside.
  Proved here: package dag's Order and Check.
-/
import Derived.Test.YtmgbhbdcnciccaaDagTAll
import Derived.Test.YtmgbhbdcnciccaaDagL2All
import Derived.Test.YtmgbhbdcnciccaaDagN
namespace Go.Proofs.Ytmgbhbdcnciccaa
set_option linter.unusedVariables false
open Go.RowKit
set_option maxRecDepth 100000 in
set_option maxHeartbeats 12800000 in
theorem checkListsD (pv : Value) (pvs : List Value) (P : List (List Int)) (w : World) (h : RRD w pv pvs P) (n : Nat) (hn : P.length = n) (hb : n ≤ 100000) :
    Calls Try.prog 34 #[pv] w fun e w' => e = .returned (.int .i64 (clE P)) ∧ Below w.heap.size w w' := by
  obtain ⟨po, pn, pc, rfl⟩ : ∃ o n c, pv = .slice o n c := by obtain ⟨ao, cap, e⟩ := h.out.sl; exact ⟨_, _, _, e⟩
  obtain rfl : pn = n := by rw [← hn, ← h.len, h.out.len]
  have HR : Hid (RRD w (.slice po pn pc) pvs P) := h
  have HN : Hid (P.length = pn) := hn
  clear h hn
  go_enter Try.func34, Try.ntmps34
  go_wp2
  go_loopg [4, 12] pn (fun g1 _v4 v12 wr => ∃ i : Nat, v12 = .int .i64 i ∧ i ≤ pn ∧ pn - i ≤ g1 ∧ Hid ((P.take i).any (noPts (pn : Int)) = false) ∧ Hid (Below w.heap.size w wr))
  case atStart => exact ⟨0, rfl, by omega, by omega, rfl, Below.refl _ _⟩
  case round =>
    obtain ⟨i, rfl, hin, hg1, HA, HB⟩ := hrel
    by_cases hlt : i < pn
    · have hltz : (i : Int) < (pn : Int) := by omega
      obtain ⟨x, gp, op, hx1, rfl, hx2⟩ := (HR.out.below (Nat.le_refl _) HB.out).out.at hlt
      have hxr := (HR.out.below (Nat.le_refl _) HB.out).inn i x hx1
      obtain ⟨xo, xn, xc, rfl⟩ : ∃ o n c, x = .slice o n c := by obtain ⟨ao, cap, e⟩ := hxr.sl; exact ⟨_, _, _, e⟩
      change wr.cell? ⟨gp, op + i, none⟩ = some (.slice xo xn xc) at hx2
      have CA : Hid _ := arePointsD (pn : Int) _ _ wr hxr
      have HTK : Hid ((P.take (i + 1)).any (noPts (pn : Int)) = noPts (pn : Int) (P.getD i [])) := by show _ = _; rw [anyP_take (by rw [HN.out]; exact hlt), HA.out]; rfl
      have HYS : Hid (noPts (pn : Int) (P.getD i []) = true → outsB P = true) := fun h => by unfold outsB; rw [HN.out]; exact anyP_at (by rw [HN.out]; exact hlt) h
      clear hxr hx1 HA
      go_wp2_with fail
      refine Calls.mono CA.out ?_
      rintro e y ⟨rfl, hy⟩
      have HB2 : Hid (Below w.heap.size w y) := bstepB HB.out hy
      clear CA hx2 HB hy
      rcases hb2 : noPts (pn : Int) (P.getD i []) with _ | _
      · have HT2 : Hid ((P.take (i + 1)).any (noPts (pn : Int)) = false) := by show _ = _; rw [HTK.out, hb2]
        clear hb2 HYS HTK
        go_wp2
        go_roundg (pn - (i + 1))
        case measure => omega
        case rel => exact ⟨i + 1, by first | rfl | go_num, by omega, Nat.le_refl _, HT2, HB2⟩
      · have HE : Hid (clE P = 3) := by show _ = _; unfold clE; rw [HYS.out hb2]; rfl
        clear hb2 HYS HTK
        go_wp2
        go_ret
        exact ⟨by rw [HE.out]; rfl, HB2.out⟩
    · have hltz : ¬ (i : Int) < (pn : Int) := by omega
      obtain rfl : i = pn := by omega
      have HNO : Hid (outsB P = false) := by
        show _ = _
        have := HA.out
        unfold outsB
        rw [List.take_of_length_le (by rw [HN.out]; exact Nat.le_refl _)] at this
        rw [HN.out]; exact this
      have HP : Hid (∀ (j : Nat) (x : Int), x ∈ P.getD j [] → ∃ p : Nat, x = (p : Int) ∧ p < i) := fun j x hx => by have := outs_no HNO.out j x hx; rw [HN.out] at this; exact this
      obtain ⟨WA, hWA⟩ : ∃ W, W = wr.alloc (.cells #[.int .i64 (-1)] 3) := ⟨_, rfl⟩
      obtain ⟨gb, hgb⟩ : ∃ g, g = wr.heap.size := ⟨_, rfl⟩
      have hcb : WA.cell? ⟨gb, 0, none⟩ = some (.int .i64 (-1)) := by rw [hWA, hgb, World.cell?_alloc_at _ _ _ _ rfl]; rfl
      have CR : Hid _ := repeatD gb i hb WA hcb
      have HBA : Hid (Below w.heap.size w WA) := by show Below _ _ _; rw [hWA]; exact bstepB HB.out (belowB _ _)
      have HWA : Hid (WA = wr.alloc (.cells #[.int .i64 (-1)] 3)) := hWA
      have HGB : Hid (gb = wr.heap.size) := hgb
      clear hWA hgb hcb HA HB
      go_wp2_with fail
      rw [← HWA.out, ← HGB.out]
      refine Calls.mono CR.out ?_
      rintro e y ⟨g, rfl, hy1, hy2⟩
      have HLR : Hid (OG (Value.int .i64) w.heap.size 3 y (.slice (some ⟨g, 0, none⟩) i i) (List.replicate i (-1))) := hy1.mono HBA.out.size
      have HB2 : Hid (Below w.heap.size w y) := bstepB HBA.out hy2
      have HLA : Hid (LaI P 0 0 (List.replicate i (-1))) := LaI.start HN.out
      clear CR HBA HWA HGB hy1 hy2
      go_wp2
      go_loopg [6, 7, 9, 28] i (fun g1 _v6 _v7 _v9 v28 wr => ∃ (j : Nat) (La : List Int), v28 = .int .i64 j ∧ j ≤ i ∧ i - j ≤ g1 ∧ Hid ((P.take j).any twiceB = false) ∧ Hid (LaI P j 0 La) ∧ Hid (OG (Value.int .i64) w.heap.size 3 wr (.slice (some ⟨g, 0, none⟩) i i) La) ∧ Hid (Below w.heap.size w wr))
      case atStart => exact ⟨0, _, rfl, by omega, by omega, rfl, HLA, HLR, HB2⟩
      case round =>
        clear HLA HLR HB2
        obtain ⟨j, La, rfl, hjn, hg2, HA, HLA, HLR, HB⟩ := hrel
        by_cases hlj : j < i
        · have hljz : (j : Int) < (i : Int) := by omega
          obtain ⟨x, gp, op, hx1, rfl, hx2⟩ := (HR.out.below (Nat.le_refl _) HB.out).out.at hlj
          have hxr := HR.out.inn j x hx1
          obtain ⟨xo, xn, xc, rfl⟩ : ∃ o n c, x = .slice o n c := by obtain ⟨ao, cap, e⟩ := hxr.sl; exact ⟨_, _, _, e⟩
          have hxm : xn ≤ 9223372036854775807 := by have := hxr.room.2.1; have := hxr.room.1; unfold maxLen at *; omega
          have HX : Hid (RG (Value.int .i64) w (.slice xo xn xc) (P.getD j [])) := hxr
          have HTK : Hid ((P.take (j + 1)).any twiceB = twiceB (P.getD j [])) := by show _ = _; rw [anyP_take (by rw [HN.out]; exact hlj), HA.out]; rfl
          have HYS : Hid (twiceB (P.getD j []) = true → clE P = 40) := fun h => by
            have : twicesB P = true := anyP_at (by rw [HN.out]; exact hlj) h
            unfold clE
            rw [HNO.out, this]; rfl
          change wr.cell? ⟨gp, op + j, none⟩ = some (.slice xo xn xc) at hx2
          have HND0 : Hid (((P.getD j []).take 0).Nodup) := List.nodup_nil
          clear hxr hx1 HA
          go_wp2
          go_loopg [9, 35] xn (fun g3 _v9 v35 wq => ∃ (k : Nat) (La : List Int), v35 = .int .i64 k ∧ k ≤ xn ∧ xn - k ≤ g3 ∧ Hid (((P.getD j []).take k).Nodup) ∧ Hid (LaI P j k La) ∧ Hid (OG (Value.int .i64) w.heap.size 3 wq (.slice (some ⟨g, 0, none⟩) i i) La) ∧ Hid (Below w.heap.size w wq))
          case atStart => exact ⟨0, La, rfl, by omega, by omega, HND0, HLA, HLR, HB⟩
          case round =>
            clear HND0 HLA HLR HB hx2
            obtain ⟨k, La, rfl, hkx, hg3, HND, HLA, HLR, HB⟩ := hrel
            by_cases hlk : k < xn
            · have hlkz : (k : Int) < (xn : Int) := by omega
              obtain ⟨y, gx, ox, hy1, rfl, hy2⟩ := (HX.out.below (Nat.le_refl _) HB.out).at hlk
              obtain ⟨p, rfl, hpn⟩ := HP.out j y (List.mem_of_getElem? hy1)
              have hpz : (p : Int) < (i : Int) := by omega
              have hll := HLR.out.rg.len
              obtain ⟨l, hl⟩ : ∃ l, l = La.getD p 0 := ⟨_, rfl⟩
              have hlp : La[p]? = some l := by rw [hl]; exact getD_some (by omega)
              obtain ⟨hc1, hf1⟩ := HLR.out.cell hlp
              have hla := HLA.out.2 p (by rw [HN.out]; exact hpn)
              rw [← hl] at hla
              have HY : Hid ((P.getD j [])[k]? = some (p : Int)) := hy1
              by_cases he : l = (j : Int)
              · have HE : Hid (clE P = 40) := HYS.out (twice_at hy1 (hla.2.1 he))
                have hez : (l == (j : Int)) = true := by simpa using he
                clear hl hlp hla hy1 hll he HLA HLR
                go_wp2
                go_ret
                exact ⟨by rw [HE.out]; rfl, HB.out⟩
              · have hez : (l == (j : Int)) = false := by simpa using he
                have HNN : Hid (((P.getD j []).take (k + 1)).Nodup) := nodup_take HND.out hy1 (fun hm => he (hla.2.2 hm))
                have HL2 : Hid (LaI P j (k + 1) (La.set p (j : Int))) := HLA.out.step (by rw [HN.out]; exact hpn) hy1
                have hst := HLR.out.set hll p (j : Int)
                obtain ⟨WN, hWN⟩ : ∃ W, W = wr.setCell ⟨g, p, none⟩ (.int .i64 (j : Int)) := ⟨_, rfl⟩
                rw [← hWN] at hst
                have HLR2 : Hid (OG (Value.int .i64) w.heap.size 3 WN (.slice (some ⟨g, 0, none⟩) i i) (La.set p (j : Int))) := hst.1
                have HB2 : Hid (Below w.heap.size w WN) := by show Below _ _ _; rw [hWN]; exact HB.out.setCell (p := ⟨g, p, none⟩) (HLR.out.lt g rfl).1 _
                have HWN : Hid (WN = wr.setCell ⟨g, p, none⟩ (.int .i64 (j : Int))) := hWN
                clear hl hlp hla hy1 hll he hWN hst HLA HLR HB HND
                go_wp2
                rw [← HWN.out]
                clear HWN hc1 hf1 hy2
                go_roundg (xn - (k + 1))
                case measure => omega
                case rel => exact ⟨k + 1, _, by first | rfl | go_num, by omega, Nat.le_refl _, HNN, HL2, HLR2, HB2⟩
            · have hlkz : ¬ (k : Int) < (xn : Int) := by omega
              have HTK2 : Hid ((P.take (j + 1)).any twiceB = false) := by
                show _ = _
                rw [HTK.out]
                have := HND.out
                rw [List.take_of_length_le (by rw [HX.out.len]; omega)] at this
                unfold twiceB
                exact decide_eq_false fun h => h this
              have HL2 : Hid (LaI P (j + 1) 0 La) := HLA.out.next
              clear HND HLA HTK HYS
              go_wp2
              go_roundg (i - (j + 1))
              case measure => omega
              case rel => exact ⟨j + 1, _, by first | rfl | go_num, by omega, Nat.le_refl _, HTK2, HL2, HLR, HB⟩
        · have hljz : ¬ (j : Int) < (i : Int) := by omega
          obtain rfl : j = i := by omega
          have HE : Hid (clE P = 0) := by
            show _ = _
            have := HA.out
            rw [List.take_of_length_le (by rw [HN.out]; exact Nat.le_refl _)] at this
            have h2 : twicesB P = false := this
            unfold clE
            rw [HNO.out, h2]; rfl
          clear HA HLA HLR
          go_wp2
          go_ret
          exact ⟨by rw [HE.out]; rfl, HB.out⟩
end Go.Proofs.Ytmgbhbdcnciccaa

namespace Go.Proofs.Ytmgbhbdcnciccaa
set_option linter.unusedVariables false
open Go.RowKit
/-- What Check answers. -/
def ckE (P : List (List Int)) : Int := if clE P = 0 then (if (outL P).length < P.length then 42 else 0) else clE P
/-- What Order answers. -/
def ordL (P : List (List Int)) : List Int := if ckE P = 0 then outL P else []
theorem cl_zero {P : List (List Int)} (h : clE P = 0) : outsB P = false ∧ twicesB P = false := by
  unfold clE at h
  cases h1 : outsB P <;> cases h2 : twicesB P <;> simp [h1, h2] at h ⊢
set_option maxRecDepth 100000 in
set_option maxHeartbeats 3200000 in
theorem orderD (pv : Value) (pvs : List Value) (P : List (List Int)) (w : World) (h : RRD w pv pvs P) (n : Nat) (hn : P.length = n) (hb : n ≤ 100000) (hbl : ∀ i, (P.getD i []).length ≤ 100000) :
    Calls Try.prog 19 #[pv] w fun e w' => ∃ tv, e = .returned (.tuple #[tv, .int .i64 (ckE P)]) ∧ OG (Value.int .i64) w.heap.size 3 w' tv (ordL P) ∧ Below w.heap.size w w' := by
  have CC : Hid _ := checkListsD pv pvs P w h n hn hb
  obtain ⟨po, pn, pc, rfl⟩ : ∃ o n c, pv = .slice o n c := by obtain ⟨ao, cap, e⟩ := h.out.sl; exact ⟨_, _, _, e⟩
  obtain rfl : pn = n := by rw [← hn, ← h.len, h.out.len]
  have HR : Hid (RRD w (.slice po pn pc) pvs P) := h
  have HN : Hid (P.length = pn) := hn
  have HBL : Hid (∀ i, (P.getD i []).length ≤ 100000) := hbl
  clear h hn hbl
  go_enter Try.func19, Try.ntmps19
  go_wp2_with fail
  refine Calls.mono CC.out ?_
  rintro e y ⟨rfl, hy⟩
  have HB : Hid (Below w.heap.size w y) := hy
  clear CC hy
  by_cases h0 : clE P = 0
  · have hz := cl_zero h0
    have hP := outs_no hz.1
    have hnd := twices_no hz.2
    have CR : Hid _ := restOfD _ pvs P y (HR.out.below (Nat.le_refl _) HB.out) hP hnd pn HN.out hb HBL.out
    have HND : Hid (∀ i, (P.getD i []).Nodup) := hnd
    have HCK : Hid (ckE P = if (outL P).length < pn then 42 else 0) := by show _ = _; unfold ckE; rw [if_pos h0, HN.out]
    rw [h0]
    clear hz hP hnd h0
    go_wp2_with fail
    refine Calls.mono CR.out ?_
    rintro e z ⟨rb, rfl, S, v, g, go, gw, cvs, Ob, Wt, L, hz1, hz2, hz3, hz4, hz5⟩
    have CD : Hid _ := drainD y.heap.size S z rb _ v g go gw pn cvs P Ob Wt L hz1 hz5.size HN.out hb HBL.out HND.out hz2 hz3 hz4
    have HB2 : Hid (Below w.heap.size w z) := bstepB HB.out hz5
    have HBK : Hid (∀ q, RtS rb go gw v q → w.heap.size ≤ q) := fun q hq => by
      have h1 := hz1.frw
      have h2 := HB.out.size
      rcases hq with e | e | e | e
      · rw [e]; exact Nat.le_trans h2 hz1.hB
      · rw [e]; exact Nat.le_trans h2 h1.1
      · rw [e]; exact Nat.le_trans h2 h1.2.1
      · exact Nat.le_trans h2 (h1.2.2 q e)
    clear CR hz1 hz2 hz3 hz4 hz5 HB
    go_wp2_with fail
    refine Calls.mono CD.out ?_
    rintro e x ⟨tv, rfl, hx1, hx2⟩
    have HB3 : Hid (Below w.heap.size w x) := HB2.out.trans (hx2.below HB2.out.size HBK.out)
    have HO : Hid (OG (Value.int .i64) w.heap.size 3 x tv (outL P)) := hx1.mono HB2.out.size
    obtain ⟨to', tn, tc, rfl⟩ : ∃ o n c, tv = .slice o n c := by obtain ⟨ao, cap, e⟩ := hx1.rg.sl; exact ⟨_, _, _, e⟩
    have hl : (outL P).length = tn := hx1.rg.len
    rw [hl] at HCK
    clear CD hx1 hx2 hl HBK HB2
    by_cases hlt : tn < pn
    · have hltz : (tn : Int) < (pn : Int) := by omega
      have HE : Hid (ckE P = 42) := by show _ = _; rw [HCK.out, if_pos hlt]
      clear HCK
      go_wp2
      go_ret2
      exact ⟨_, by rw [HE.out]; rfl, by unfold ordL; rw [HE.out]; exact OG.nil _ _ _, HB3.out⟩
    · have hltz : ¬ (tn : Int) < (pn : Int) := by omega
      have HE : Hid (ckE P = 0) := by show _ = _; rw [HCK.out, if_neg hlt]
      clear HCK
      go_wp2
      go_ret2
      exact ⟨_, by rw [HE.out]; rfl, by unfold ordL; rw [HE.out]; exact HO.out, HB3.out⟩
  · have HE : Hid (ckE P = clE P) := by show _ = _; unfold ckE; rw [if_neg h0]
    obtain ⟨c, hc⟩ : ∃ c, c = clE P := ⟨_, rfl⟩
    rw [← hc] at h0 HE ⊢
    have hcz : (c != (0 : Int)) = true := by simpa using h0
    have HC0 : Hid (c ≠ 0) := h0
    clear h0 hc
    go_wp2
    go_ret2
    exact ⟨_, by rw [HE.out]; rfl, by unfold ordL; rw [HE.out, if_neg HC0.out]; exact OG.nil _ _ _, HB.out⟩
set_option maxRecDepth 100000 in
set_option maxHeartbeats 1600000 in
theorem checkD (pv : Value) (pvs : List Value) (P : List (List Int)) (w : World) (h : RRD w pv pvs P) (n : Nat) (hn : P.length = n) (hb : n ≤ 100000) (hbl : ∀ i, (P.getD i []).length ≤ 100000) :
    Calls Try.prog 11 #[pv] w fun e w' => e = .returned (.int .i64 (ckE P)) ∧ Below w.heap.size w w' := by
  have CC : Hid _ := orderD pv pvs P w h n hn hb hbl
  obtain ⟨po, pn, pc, rfl⟩ : ∃ o n c, pv = .slice o n c := by obtain ⟨ao, cap, e⟩ := h.out.sl; exact ⟨_, _, _, e⟩
  clear h hn hbl
  go_enter Try.func11, Try.ntmps11
  go_wp2_with fail
  refine Calls.mono CC.out ?_
  rintro e y ⟨tv, rfl, _, hy⟩
  have HB : Hid (Below w.heap.size w y) := hy
  clear CC hy
  go_wp2
  go_ret
  exact ⟨rfl, HB.out⟩
end Go.Proofs.Ytmgbhbdcnciccaa
