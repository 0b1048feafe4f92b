/-
  Proved here: package dag's checkLists: what is wrong with parents, ways that lead back left aside.
-/
import Derived.Test.YtcadljpdokhpmaaDagXAll
import Derived.Test.YtcadljpdokhpmaaDagT
namespace Go.Proofs.Ytcadljpdokhpmaa
set_option linter.unusedVariables false
open Go.RowKit
set_option maxRecDepth 100000 in
set_option maxHeartbeats 12800000 in
theorem checkListsD (pv : Value) (pvs : List Value) (P : List (List Int)) (w : World) (h : RRD w pv pvs P) (n : Nat) (hn : P.length = n) (hb : n ≤ 100000) :
    Calls Try.prog 41 #[pv] w fun e w' => e = .returned (.int .i64 (clE P)) ∧ Below w.heap.size w w' := by
  obtain ⟨po, pn, pc, rfl⟩ : ∃ o n c, pv = .slice o n c := by obtain ⟨ao, cap, e⟩ := h.out.sl; exact ⟨_, _, _, e⟩
  obtain rfl : pn = n := by rw [← hn, ← h.len, h.out.len]
  have HR : Hid (RRD w (.slice po pn pc) pvs P) := h
  have HN : Hid (P.length = pn) := hn
  clear h hn
  go_enter Try.func41, Try.ntmps41
  go_wp2
  go_loopg [4, 12] pn (fun g1 _v4 v12 wr => ∃ i : Nat, v12 = .int .i64 i ∧ i ≤ pn ∧ pn - i ≤ g1 ∧ Hid ((P.take i).any (noPts (pn : Int)) = false) ∧ Hid (Below w.heap.size w wr))
  case atStart => exact ⟨0, rfl, by omega, by omega, rfl, Below.refl _ _⟩
  case round =>
    obtain ⟨i, rfl, hin, hg1, HA, HB⟩ := hrel
    by_cases hlt : i < pn
    · have hltz : (i : Int) < (pn : Int) := by omega
      obtain ⟨x, gp, op, hx1, rfl, hx2⟩ := (HR.out.below (Nat.le_refl _) HB.out).out.at hlt
      have hxr := (HR.out.below (Nat.le_refl _) HB.out).inn i x hx1
      obtain ⟨xo, xn, xc, rfl⟩ : ∃ o n c, x = .slice o n c := by obtain ⟨ao, cap, e⟩ := hxr.sl; exact ⟨_, _, _, e⟩
      change wr.cell? ⟨gp, op + i, none⟩ = some (.slice xo xn xc) at hx2
      have CA : Hid _ := arePointsD (pn : Int) _ _ wr hxr
      have HTK : Hid ((P.take (i + 1)).any (noPts (pn : Int)) = noPts (pn : Int) (P.getD i [])) := by show _ = _; rw [anyP_take (by rw [HN.out]; exact hlt), HA.out]; rfl
      have HYS : Hid (noPts (pn : Int) (P.getD i []) = true → outsB P = true) := fun h => by unfold outsB; rw [HN.out]; exact anyP_at (by rw [HN.out]; exact hlt) h
      clear hxr hx1 HA
      go_wp2_with fail
      refine Calls.mono CA.out ?_
      rintro e y ⟨rfl, hy⟩
      have HB2 : Hid (Below w.heap.size w y) := bstepB HB.out hy
      clear CA hx2 HB hy
      rcases hb2 : noPts (pn : Int) (P.getD i []) with _ | _
      · have HT2 : Hid ((P.take (i + 1)).any (noPts (pn : Int)) = false) := by show _ = _; rw [HTK.out, hb2]
        clear hb2 HYS HTK
        go_wp2
        go_roundg (pn - (i + 1))
        case measure => omega
        case rel => exact ⟨i + 1, by first | rfl | go_num, by omega, Nat.le_refl _, HT2, HB2⟩
      · have HE : Hid (clE P = 3) := by show _ = _; unfold clE; rw [HYS.out hb2]; rfl
        clear hb2 HYS HTK
        go_wp2
        go_ret
        exact ⟨by rw [HE.out]; rfl, HB2.out⟩
    · have hltz : ¬ (i : Int) < (pn : Int) := by omega
      obtain rfl : i = pn := by omega
      have HNO : Hid (outsB P = false) := by
        show _ = _
        have := HA.out
        unfold outsB
        rw [List.take_of_length_le (by rw [HN.out]; exact Nat.le_refl _)] at this
        rw [HN.out]; exact this
      have HP : Hid (∀ (j : Nat) (x : Int), x ∈ P.getD j [] → ∃ p : Nat, x = (p : Int) ∧ p < i) := fun j x hx => by have := outs_no HNO.out j x hx; rw [HN.out] at this; exact this
      obtain ⟨WA, hWA⟩ : ∃ W, W = wr.alloc (.cells #[.int .i64 (-1)] 3) := ⟨_, rfl⟩
      obtain ⟨gb, hgb⟩ : ∃ g, g = wr.heap.size := ⟨_, rfl⟩
      have hcb : WA.cell? ⟨gb, 0, none⟩ = some (.int .i64 (-1)) := by rw [hWA, hgb, World.cell?_alloc_at _ _ _ _ rfl]; rfl
      have CR : Hid _ := repeatD gb i hb WA hcb
      have HBA : Hid (Below w.heap.size w WA) := by show Below _ _ _; rw [hWA]; exact bstepB HB.out (belowB _ _)
      have HWA : Hid (WA = wr.alloc (.cells #[.int .i64 (-1)] 3)) := hWA
      have HGB : Hid (gb = wr.heap.size) := hgb
      clear hWA hgb hcb HA HB
      go_wp2_with fail
      rw [← HWA.out, ← HGB.out]
      refine Calls.mono CR.out ?_
      rintro e y ⟨g, rfl, hy1, hy2⟩
      have HLR : Hid (OG (Value.int .i64) w.heap.size 3 y (.slice (some ⟨g, 0, none⟩) i i) (List.replicate i (-1))) := hy1.mono HBA.out.size
      have HB2 : Hid (Below w.heap.size w y) := bstepB HBA.out hy2
      have HLA : Hid (LaI P 0 0 (List.replicate i (-1))) := LaI.start HN.out
      clear CR HBA HWA HGB hy1 hy2
      go_wp2
      go_loopg [6, 7, 9, 28] i (fun g1 _v6 _v7 _v9 v28 wr => ∃ (j : Nat) (La : List Int), v28 = .int .i64 j ∧ j ≤ i ∧ i - j ≤ g1 ∧ Hid ((P.take j).any twiceB = false) ∧ Hid (LaI P j 0 La) ∧ Hid (OG (Value.int .i64) w.heap.size 3 wr (.slice (some ⟨g, 0, none⟩) i i) La) ∧ Hid (Below w.heap.size w wr))
      case atStart => exact ⟨0, _, rfl, by omega, by omega, rfl, HLA, HLR, HB2⟩
      case round =>
        clear HLA HLR HB2
        obtain ⟨j, La, rfl, hjn, hg2, HA, HLA, HLR, HB⟩ := hrel
        by_cases hlj : j < i
        · have hljz : (j : Int) < (i : Int) := by omega
          obtain ⟨x, gp, op, hx1, rfl, hx2⟩ := (HR.out.below (Nat.le_refl _) HB.out).out.at hlj
          have hxr := HR.out.inn j x hx1
          obtain ⟨xo, xn, xc, rfl⟩ : ∃ o n c, x = .slice o n c := by obtain ⟨ao, cap, e⟩ := hxr.sl; exact ⟨_, _, _, e⟩
          have hxm : xn ≤ 9223372036854775807 := by have := hxr.room.2.1; have := hxr.room.1; unfold maxLen at *; omega
          have HX : Hid (RG (Value.int .i64) w (.slice xo xn xc) (P.getD j [])) := hxr
          have HTK : Hid ((P.take (j + 1)).any twiceB = twiceB (P.getD j [])) := by show _ = _; rw [anyP_take (by rw [HN.out]; exact hlj), HA.out]; rfl
          have HYS : Hid (twiceB (P.getD j []) = true → clE P = 40) := fun h => by
            have : twicesB P = true := anyP_at (by rw [HN.out]; exact hlj) h
            unfold clE
            rw [HNO.out, this]; rfl
          change wr.cell? ⟨gp, op + j, none⟩ = some (.slice xo xn xc) at hx2
          have HND0 : Hid (((P.getD j []).take 0).Nodup) := List.nodup_nil
          clear hxr hx1 HA
          go_wp2
          go_loopg [9, 35] xn (fun g3 _v9 v35 wq => ∃ (k : Nat) (La : List Int), v35 = .int .i64 k ∧ k ≤ xn ∧ xn - k ≤ g3 ∧ Hid (((P.getD j []).take k).Nodup) ∧ Hid (LaI P j k La) ∧ Hid (OG (Value.int .i64) w.heap.size 3 wq (.slice (some ⟨g, 0, none⟩) i i) La) ∧ Hid (Below w.heap.size w wq))
          case atStart => exact ⟨0, La, rfl, by omega, by omega, HND0, HLA, HLR, HB⟩
          case round =>
            clear HND0 HLA HLR HB hx2
            obtain ⟨k, La, rfl, hkx, hg3, HND, HLA, HLR, HB⟩ := hrel
            by_cases hlk : k < xn
            · have hlkz : (k : Int) < (xn : Int) := by omega
              obtain ⟨y, gx, ox, hy1, rfl, hy2⟩ := (HX.out.below (Nat.le_refl _) HB.out).at hlk
              obtain ⟨p, rfl, hpn⟩ := HP.out j y (List.mem_of_getElem? hy1)
              have hpz : (p : Int) < (i : Int) := by omega
              have hll := HLR.out.rg.len
              obtain ⟨l, hl⟩ : ∃ l, l = La.getD p 0 := ⟨_, rfl⟩
              have hlp : La[p]? = some l := by rw [hl]; exact getD_some (by omega)
              obtain ⟨hc1, hf1⟩ := HLR.out.cell hlp
              have hla := HLA.out.2 p (by rw [HN.out]; exact hpn)
              rw [← hl] at hla
              have HY : Hid ((P.getD j [])[k]? = some (p : Int)) := hy1
              by_cases he : l = (j : Int)
              · have HE : Hid (clE P = 40) := HYS.out (twice_at hy1 (hla.2.1 he))
                have hez : (l == (j : Int)) = true := by simpa using he
                clear hl hlp hla hy1 hll he HLA HLR
                go_wp2
                go_ret
                exact ⟨by rw [HE.out]; rfl, HB.out⟩
              · have hez : (l == (j : Int)) = false := by simpa using he
                have HNN : Hid (((P.getD j []).take (k + 1)).Nodup) := nodup_take HND.out hy1 (fun hm => he (hla.2.2 hm))
                have HL2 : Hid (LaI P j (k + 1) (La.set p (j : Int))) := HLA.out.step (by rw [HN.out]; exact hpn) hy1
                have hst := HLR.out.set hll p (j : Int)
                obtain ⟨WN, hWN⟩ : ∃ W, W = wr.setCell ⟨g, p, none⟩ (.int .i64 (j : Int)) := ⟨_, rfl⟩
                rw [← hWN] at hst
                have HLR2 : Hid (OG (Value.int .i64) w.heap.size 3 WN (.slice (some ⟨g, 0, none⟩) i i) (La.set p (j : Int))) := hst.1
                have HB2 : Hid (Below w.heap.size w WN) := by show Below _ _ _; rw [hWN]; exact HB.out.setCell (p := ⟨g, p, none⟩) (HLR.out.lt g rfl).1 _
                have HWN : Hid (WN = wr.setCell ⟨g, p, none⟩ (.int .i64 (j : Int))) := hWN
                clear hl hlp hla hy1 hll he hWN hst HLA HLR HB HND
                go_wp2
                rw [← HWN.out]
                clear HWN hc1 hf1 hy2
                go_roundg (xn - (k + 1))
                case measure => omega
                case rel => exact ⟨k + 1, _, by first | rfl | go_num, by omega, Nat.le_refl _, HNN, HL2, HLR2, HB2⟩
            · have hlkz : ¬ (k : Int) < (xn : Int) := by omega
              have HTK2 : Hid ((P.take (j + 1)).any twiceB = false) := by
                show _ = _
                rw [HTK.out]
                have := HND.out
                rw [List.take_of_length_le (by rw [HX.out.len]; omega)] at this
                unfold twiceB
                exact decide_eq_false fun h => h this
              have HL2 : Hid (LaI P (j + 1) 0 La) := HLA.out.next
              clear HND HLA HTK HYS
              go_wp2
              go_roundg (i - (j + 1))
              case measure => omega
              case rel => exact ⟨j + 1, _, by first | rfl | go_num, by omega, Nat.le_refl _, HTK2, HL2, HLR, HB⟩
        · have hljz : ¬ (j : Int) < (i : Int) := by omega
          obtain rfl : j = i := by omega
          have HE : Hid (clE P = 0) := by
            show _ = _
            have := HA.out
            rw [List.take_of_length_le (by rw [HN.out]; exact Nat.le_refl _)] at this
            have h2 : twicesB P = false := this
            unfold clE
            rw [HNO.out, h2]; rfl
          clear HA HLA HLR
          go_wp2
          go_ret
          exact ⟨by rw [HE.out]; rfl, HB.out⟩
end Go.Proofs.Ytcadljpdokhpmaa
