/-
  Proved here: package dag's checkLists: what is wrong with parents, ways that lead back left aside.
  Proved here: package dag's Order and Check.
  Proved here: package dag's Cycle.
  Proved here, plain mathematics: where some points can't be put out there is a way back; the one that Cycle tells is one: each of its points hangs on the next, the last on the first, none comes twice, the first is the least.
-/
import Derived.Test.YthdpomgpcblpeaaGreatDagTAll
import Derived.Test.YthdpomgpcblpeaaGreatDagCyCAll
import Derived.Test.YthdpomgpcblpeaaGreatDagN
namespace Go.Proofs.YthdpomgpcblpeaaGreat
set_option linter.unusedVariables false
open Go.RowKit
set_option maxRecDepth 100000 in
set_option maxHeartbeats 12800000 in
theorem checkListsD (pv : Value) (pvs : List Value) (P : List (List Int)) (w : World) (h : RRD w pv pvs P) (n : Nat) (hn : P.length = n) (hb : n ≤ 100000) :
    Calls Tryz.prog 58 #[pv] w fun e w' => e = .returned (.int .i64 (clE P)) ∧ Below w.heap.size w w' := by
  obtain ⟨po, pn, pc, rfl⟩ : ∃ o n c, pv = .slice o n c := by obtain ⟨ao, cap, e⟩ := h.out.sl; exact ⟨_, _, _, e⟩
  obtain rfl : pn = n := by rw [← hn, ← h.len, h.out.len]
  have HR : Hid (RRD w (.slice po pn pc) pvs P) := h
  have HN : Hid (P.length = pn) := hn
  clear h hn
  go_enter Tryz.func58, Tryz.ntmps58
  go_wp2
  go_loopg [4, 12] pn (fun g1 _v4 v12 wr => ∃ i : Nat, v12 = .int .i64 i ∧ i ≤ pn ∧ pn - i ≤ g1 ∧ Hid ((P.take i).any (noPts (pn : Int)) = false) ∧ Hid (Below w.heap.size w wr))
  case atStart => exact ⟨0, rfl, by omega, by omega, rfl, Below.refl _ _⟩
  case round =>
    obtain ⟨i, rfl, hin, hg1, HA, HB⟩ := hrel
    by_cases hlt : i < pn
    · have hltz : (i : Int) < (pn : Int) := by omega
      obtain ⟨x, gp, op, hx1, rfl, hx2⟩ := (HR.out.below (Nat.le_refl _) HB.out).out.at hlt
      have hxr := (HR.out.below (Nat.le_refl _) HB.out).inn i x hx1
      obtain ⟨xo, xn, xc, rfl⟩ : ∃ o n c, x = .slice o n c := by obtain ⟨ao, cap, e⟩ := hxr.sl; exact ⟨_, _, _, e⟩
      change wr.cell? ⟨gp, op + i, none⟩ = some (.slice xo xn xc) at hx2
      have CA : Hid _ := arePointsD (pn : Int) _ _ wr hxr
      have HTK : Hid ((P.take (i + 1)).any (noPts (pn : Int)) = noPts (pn : Int) (P.getD i [])) := by show _ = _; rw [anyP_take (by rw [HN.out]; exact hlt), HA.out]; rfl
      have HYS : Hid (noPts (pn : Int) (P.getD i []) = true → outsB P = true) := fun h => by unfold outsB; rw [HN.out]; exact anyP_at (by rw [HN.out]; exact hlt) h
      clear hxr hx1 HA
      go_wp2_with fail
      refine Calls.mono CA.out ?_
      rintro e y ⟨rfl, hy⟩
      have HB2 : Hid (Below w.heap.size w y) := bstepB HB.out hy
      clear CA hx2 HB hy
      rcases hb2 : noPts (pn : Int) (P.getD i []) with _ | _
      · have HT2 : Hid ((P.take (i + 1)).any (noPts (pn : Int)) = false) := by show _ = _; rw [HTK.out, hb2]
        clear hb2 HYS HTK
        go_wp2
        go_roundg (pn - (i + 1))
        case measure => omega
        case rel => exact ⟨i + 1, by first | rfl | go_num, by omega, Nat.le_refl _, HT2, HB2⟩
      · have HE : Hid (clE P = 3) := by show _ = _; unfold clE; rw [HYS.out hb2]; rfl
        clear hb2 HYS HTK
        go_wp2
        go_ret
        exact ⟨by rw [HE.out]; rfl, HB2.out⟩
    · have hltz : ¬ (i : Int) < (pn : Int) := by omega
      obtain rfl : i = pn := by omega
      have HNO : Hid (outsB P = false) := by
        show _ = _
        have := HA.out
        unfold outsB
        rw [List.take_of_length_le (by rw [HN.out]; exact Nat.le_refl _)] at this
        rw [HN.out]; exact this
      have HP : Hid (∀ (j : Nat) (x : Int), x ∈ P.getD j [] → ∃ p : Nat, x = (p : Int) ∧ p < i) := fun j x hx => by have := outs_no HNO.out j x hx; rw [HN.out] at this; exact this
      obtain ⟨WA, hWA⟩ : ∃ W, W = wr.alloc (.cells #[.int .i64 (-1)] 3) := ⟨_, rfl⟩
      obtain ⟨gb, hgb⟩ : ∃ g, g = wr.heap.size := ⟨_, rfl⟩
      have hcb : WA.cell? ⟨gb, 0, none⟩ = some (.int .i64 (-1)) := by rw [hWA, hgb, World.cell?_alloc_at _ _ _ _ rfl]; rfl
      have CR : Hid _ := repeatD gb i hb WA hcb
      have HBA : Hid (Below w.heap.size w WA) := by show Below _ _ _; rw [hWA]; exact bstepB HB.out (belowB _ _)
      have HWA : Hid (WA = wr.alloc (.cells #[.int .i64 (-1)] 3)) := hWA
      have HGB : Hid (gb = wr.heap.size) := hgb
      clear hWA hgb hcb HA HB
      go_wp2_with fail
      rw [← HWA.out, ← HGB.out]
      refine Calls.mono CR.out ?_
      rintro e y ⟨g, rfl, hy1, hy2⟩
      have HLR : Hid (OG (Value.int .i64) w.heap.size 3 y (.slice (some ⟨g, 0, none⟩) i i) (List.replicate i (-1))) := hy1.mono HBA.out.size
      have HB2 : Hid (Below w.heap.size w y) := bstepB HBA.out hy2
      have HLA : Hid (LaI P 0 0 (List.replicate i (-1))) := LaI.start HN.out
      clear CR HBA HWA HGB hy1 hy2
      go_wp2
      go_loopg [6, 7, 9, 28] i (fun g1 _v6 _v7 _v9 v28 wr => ∃ (j : Nat) (La : List Int), v28 = .int .i64 j ∧ j ≤ i ∧ i - j ≤ g1 ∧ Hid ((P.take j).any twiceB = false) ∧ Hid (LaI P j 0 La) ∧ Hid (OG (Value.int .i64) w.heap.size 3 wr (.slice (some ⟨g, 0, none⟩) i i) La) ∧ Hid (Below w.heap.size w wr))
      case atStart => exact ⟨0, _, rfl, by omega, by omega, rfl, HLA, HLR, HB2⟩
      case round =>
        clear HLA HLR HB2
        obtain ⟨j, La, rfl, hjn, hg2, HA, HLA, HLR, HB⟩ := hrel
        by_cases hlj : j < i
        · have hljz : (j : Int) < (i : Int) := by omega
          obtain ⟨x, gp, op, hx1, rfl, hx2⟩ := (HR.out.below (Nat.le_refl _) HB.out).out.at hlj
          have hxr := HR.out.inn j x hx1
          obtain ⟨xo, xn, xc, rfl⟩ : ∃ o n c, x = .slice o n c := by obtain ⟨ao, cap, e⟩ := hxr.sl; exact ⟨_, _, _, e⟩
          have hxm : xn ≤ 9223372036854775807 := by have := hxr.room.2.1; have := hxr.room.1; unfold maxLen at *; omega
          have HX : Hid (RG (Value.int .i64) w (.slice xo xn xc) (P.getD j [])) := hxr
          have HTK : Hid ((P.take (j + 1)).any twiceB = twiceB (P.getD j [])) := by show _ = _; rw [anyP_take (by rw [HN.out]; exact hlj), HA.out]; rfl
          have HYS : Hid (twiceB (P.getD j []) = true → clE P = 40) := fun h => by
            have : twicesB P = true := anyP_at (by rw [HN.out]; exact hlj) h
            unfold clE
            rw [HNO.out, this]; rfl
          change wr.cell? ⟨gp, op + j, none⟩ = some (.slice xo xn xc) at hx2
          have HND0 : Hid (((P.getD j []).take 0).Nodup) := List.nodup_nil
          clear hxr hx1 HA
          go_wp2
          go_loopg [9, 35] xn (fun g3 _v9 v35 wq => ∃ (k : Nat) (La : List Int), v35 = .int .i64 k ∧ k ≤ xn ∧ xn - k ≤ g3 ∧ Hid (((P.getD j []).take k).Nodup) ∧ Hid (LaI P j k La) ∧ Hid (OG (Value.int .i64) w.heap.size 3 wq (.slice (some ⟨g, 0, none⟩) i i) La) ∧ Hid (Below w.heap.size w wq))
          case atStart => exact ⟨0, La, rfl, by omega, by omega, HND0, HLA, HLR, HB⟩
          case round =>
            clear HND0 HLA HLR HB hx2
            obtain ⟨k, La, rfl, hkx, hg3, HND, HLA, HLR, HB⟩ := hrel
            by_cases hlk : k < xn
            · have hlkz : (k : Int) < (xn : Int) := by omega
              obtain ⟨y, gx, ox, hy1, rfl, hy2⟩ := (HX.out.below (Nat.le_refl _) HB.out).at hlk
              obtain ⟨p, rfl, hpn⟩ := HP.out j y (List.mem_of_getElem? hy1)
              have hpz : (p : Int) < (i : Int) := by omega
              have hll := HLR.out.rg.len
              obtain ⟨l, hl⟩ : ∃ l, l = La.getD p 0 := ⟨_, rfl⟩
              have hlp : La[p]? = some l := by rw [hl]; exact getD_some (by omega)
              obtain ⟨hc1, hf1⟩ := HLR.out.cell hlp
              have hla := HLA.out.2 p (by rw [HN.out]; exact hpn)
              rw [← hl] at hla
              have HY : Hid ((P.getD j [])[k]? = some (p : Int)) := hy1
              by_cases he : l = (j : Int)
              · have HE : Hid (clE P = 40) := HYS.out (twice_at hy1 (hla.2.1 he))
                have hez : (l == (j : Int)) = true := by simpa using he
                clear hl hlp hla hy1 hll he HLA HLR
                go_wp2
                go_ret
                exact ⟨by rw [HE.out]; rfl, HB.out⟩
              · have hez : (l == (j : Int)) = false := by simpa using he
                have HNN : Hid (((P.getD j []).take (k + 1)).Nodup) := nodup_take HND.out hy1 (fun hm => he (hla.2.2 hm))
                have HL2 : Hid (LaI P j (k + 1) (La.set p (j : Int))) := HLA.out.step (by rw [HN.out]; exact hpn) hy1
                have hst := HLR.out.set hll p (j : Int)
                obtain ⟨WN, hWN⟩ : ∃ W, W = wr.setCell ⟨g, p, none⟩ (.int .i64 (j : Int)) := ⟨_, rfl⟩
                rw [← hWN] at hst
                have HLR2 : Hid (OG (Value.int .i64) w.heap.size 3 WN (.slice (some ⟨g, 0, none⟩) i i) (La.set p (j : Int))) := hst.1
                have HB2 : Hid (Below w.heap.size w WN) := by show Below _ _ _; rw [hWN]; exact HB.out.setCell (p := ⟨g, p, none⟩) (HLR.out.lt g rfl).1 _
                have HWN : Hid (WN = wr.setCell ⟨g, p, none⟩ (.int .i64 (j : Int))) := hWN
                clear hl hlp hla hy1 hll he hWN hst HLA HLR HB HND
                go_wp2
                rw [← HWN.out]
                clear HWN hc1 hf1 hy2
                go_roundg (xn - (k + 1))
                case measure => omega
                case rel => exact ⟨k + 1, _, by first | rfl | go_num, by omega, Nat.le_refl _, HNN, HL2, HLR2, HB2⟩
            · have hlkz : ¬ (k : Int) < (xn : Int) := by omega
              have HTK2 : Hid ((P.take (j + 1)).any twiceB = false) := by
                show _ = _
                rw [HTK.out]
                have := HND.out
                rw [List.take_of_length_le (by rw [HX.out.len]; omega)] at this
                unfold twiceB
                exact decide_eq_false fun h => h this
              have HL2 : Hid (LaI P (j + 1) 0 La) := HLA.out.next
              clear HND HLA HTK HYS
              go_wp2
              go_roundg (i - (j + 1))
              case measure => omega
              case rel => exact ⟨j + 1, _, by first | rfl | go_num, by omega, Nat.le_refl _, HTK2, HL2, HLR, HB⟩
        · have hljz : ¬ (j : Int) < (i : Int) := by omega
          obtain rfl : j = i := by omega
          have HE : Hid (clE P = 0) := by
            show _ = _
            have := HA.out
            rw [List.take_of_length_le (by rw [HN.out]; exact Nat.le_refl _)] at this
            have h2 : twicesB P = false := this
            unfold clE
            rw [HNO.out, h2]; rfl
          clear HA HLA HLR
          go_wp2
          go_ret
          exact ⟨by rw [HE.out]; rfl, HB.out⟩
end Go.Proofs.YthdpomgpcblpeaaGreat

namespace Go.Proofs.YthdpomgpcblpeaaGreat
set_option linter.unusedVariables false
open Go.RowKit
/-- What Check answers. -/
def ckE (P : List (List Int)) : Int := if clE P = 0 then (if (outL P).length < P.length then 42 else 0) else clE P
/-- What Order answers. -/
def ordL (P : List (List Int)) : List Int := if ckE P = 0 then outL P else []
theorem cl_zero {P : List (List Int)} (h : clE P = 0) : outsB P = false ∧ twicesB P = false := by
  unfold clE at h
  cases h1 : outsB P <;> cases h2 : twicesB P <;> simp [h1, h2] at h ⊢
set_option maxRecDepth 100000 in
set_option maxHeartbeats 3200000 in
theorem orderD (pv : Value) (pvs : List Value) (P : List (List Int)) (w : World) (h : RRD w pv pvs P) (n : Nat) (hn : P.length = n) (hb : n ≤ 100000) (hbl : ∀ i, (P.getD i []).length ≤ 100000) :
    Calls Tryz.prog 45 #[pv] w fun e w' => ∃ tv, e = .returned (.tuple #[tv, .int .i64 (ckE P)]) ∧ OG (Value.int .i64) w.heap.size 3 w' tv (ordL P) ∧ Below w.heap.size w w' := by
  have CC : Hid _ := checkListsD pv pvs P w h n hn hb
  obtain ⟨po, pn, pc, rfl⟩ : ∃ o n c, pv = .slice o n c := by obtain ⟨ao, cap, e⟩ := h.out.sl; exact ⟨_, _, _, e⟩
  obtain rfl : pn = n := by rw [← hn, ← h.len, h.out.len]
  have HR : Hid (RRD w (.slice po pn pc) pvs P) := h
  have HN : Hid (P.length = pn) := hn
  have HBL : Hid (∀ i, (P.getD i []).length ≤ 100000) := hbl
  clear h hn hbl
  go_enter Tryz.func45, Tryz.ntmps45
  go_wp2_with fail
  refine Calls.mono CC.out ?_
  rintro e y ⟨rfl, hy⟩
  have HB : Hid (Below w.heap.size w y) := hy
  clear CC hy
  by_cases h0 : clE P = 0
  · have hz := cl_zero h0
    have hP := outs_no hz.1
    have hnd := twices_no hz.2
    have CR : Hid _ := restOfD _ pvs P y (HR.out.below (Nat.le_refl _) HB.out) hP hnd pn HN.out hb HBL.out
    have HND : Hid (∀ i, (P.getD i []).Nodup) := hnd
    have HCK : Hid (ckE P = if (outL P).length < pn then 42 else 0) := by show _ = _; unfold ckE; rw [if_pos h0, HN.out]
    rw [h0]
    clear hz hP hnd h0
    go_wp2_with fail
    refine Calls.mono CR.out ?_
    rintro e z ⟨rb, rfl, S, v, g, go, gw, cvs, Ob, Wt, L, hz1, hz2, hz3, hz4, hz5⟩
    have CD : Hid _ := drainD y.heap.size S z rb _ v g go gw pn cvs P Ob Wt L hz1 hz5.size HN.out hb HBL.out HND.out hz2 hz3 hz4
    have HB2 : Hid (Below w.heap.size w z) := bstepB HB.out hz5
    have HBK : Hid (∀ q, RtS rb go gw v q → w.heap.size ≤ q) := fun q hq => by
      have h1 := hz1.frw
      have h2 := HB.out.size
      rcases hq with e | e | e | e
      · rw [e]; exact Nat.le_trans h2 hz1.hB
      · rw [e]; exact Nat.le_trans h2 h1.1
      · rw [e]; exact Nat.le_trans h2 h1.2.1
      · exact Nat.le_trans h2 (h1.2.2 q e)
    clear CR hz1 hz2 hz3 hz4 hz5 HB
    go_wp2_with fail
    refine Calls.mono CD.out ?_
    rintro e x ⟨tv, rfl, hx1, hx2⟩
    have HB3 : Hid (Below w.heap.size w x) := HB2.out.trans (hx2.below HB2.out.size HBK.out)
    have HO : Hid (OG (Value.int .i64) w.heap.size 3 x tv (outL P)) := hx1.mono HB2.out.size
    obtain ⟨to', tn, tc, rfl⟩ : ∃ o n c, tv = .slice o n c := by obtain ⟨ao, cap, e⟩ := hx1.rg.sl; exact ⟨_, _, _, e⟩
    have hl : (outL P).length = tn := hx1.rg.len
    rw [hl] at HCK
    clear CD hx1 hx2 hl HBK HB2
    by_cases hlt : tn < pn
    · have hltz : (tn : Int) < (pn : Int) := by omega
      have HE : Hid (ckE P = 42) := by show _ = _; rw [HCK.out, if_pos hlt]
      clear HCK
      go_wp2
      go_ret2
      exact ⟨_, by rw [HE.out]; rfl, by unfold ordL; rw [HE.out]; exact OG.nil _ _ _, HB3.out⟩
    · have hltz : ¬ (tn : Int) < (pn : Int) := by omega
      have HE : Hid (ckE P = 0) := by show _ = _; rw [HCK.out, if_neg hlt]
      clear HCK
      go_wp2
      go_ret2
      exact ⟨_, by rw [HE.out]; rfl, by unfold ordL; rw [HE.out]; exact HO.out, HB3.out⟩
  · have HE : Hid (ckE P = clE P) := by show _ = _; unfold ckE; rw [if_neg h0]
    obtain ⟨c, hc⟩ : ∃ c, c = clE P := ⟨_, rfl⟩
    rw [← hc] at h0 HE ⊢
    have hcz : (c != (0 : Int)) = true := by simpa using h0
    have HC0 : Hid (c ≠ 0) := h0
    clear h0 hc
    go_wp2
    go_ret2
    exact ⟨_, by rw [HE.out]; rfl, by unfold ordL; rw [HE.out, if_neg HC0.out]; exact OG.nil _ _ _, HB.out⟩
set_option maxRecDepth 100000 in
set_option maxHeartbeats 1600000 in
theorem checkD (pv : Value) (pvs : List Value) (P : List (List Int)) (w : World) (h : RRD w pv pvs P) (n : Nat) (hn : P.length = n) (hb : n ≤ 100000) (hbl : ∀ i, (P.getD i []).length ≤ 100000) :
    Calls Tryz.prog 31 #[pv] w fun e w' => e = .returned (.int .i64 (ckE P)) ∧ Below w.heap.size w w' := by
  have CC : Hid _ := orderD pv pvs P w h n hn hb hbl
  obtain ⟨po, pn, pc, rfl⟩ : ∃ o n c, pv = .slice o n c := by obtain ⟨ao, cap, e⟩ := h.out.sl; exact ⟨_, _, _, e⟩
  clear h hn hbl
  go_enter Tryz.func31, Tryz.ntmps31
  go_wp2_with fail
  refine Calls.mono CC.out ?_
  rintro e y ⟨tv, rfl, _, hy⟩
  have HB : Hid (Below w.heap.size w y) := hy
  clear CC hy
  go_wp2
  go_ret
  exact ⟨rfl, HB.out⟩
end Go.Proofs.YthdpomgpcblpeaaGreat

namespace Go.Proofs.YthdpomgpcblpeaaGreat
set_option linter.unusedVariables false
open Go.RowKit
/-- One point more: what is out, the best way so far, how many points a better one may have. -/
noncomputable def cyStep (P : List (List Int)) (st : List Int × List Int × Nat) (k : Nat) : List Int × List Int × Nat :=
  if (k : Int) ∈ st.1 then st else
    (outF P (P.length - (st.1 ++ [(k : Int)]).length) (st.1 ++ [(k : Int)]), (bkF P st.1 k st.2.2).getD st.2.1, match bkF P st.1 k st.2.2 with | some c => c.length - 1 | none => st.2.2)
noncomputable def cySt (P : List (List Int)) (k : Nat) : List Int × List Int × Nat := (List.range k).foldl (cyStep P) (outL P, [], P.length)
theorem cySt_succ (P : List (List Int)) (k : Nat) : cySt P (k + 1) = cyStep P (cySt P k) k := by
  unfold cySt
  rw [List.range_succ, List.foldl_append]; rfl
/-- What Cycle answers. -/
noncomputable def cyL (P : List (List Int)) : List Int := if ckE P = 42 then (cySt P P.length).2.1 else []
theorem bkF_len {P : List (List Int)} {T : List Int} {s most : Nat} {c : List Int} (h : bkF P T s most = some c) : 1 ≤ c.length ∧ c.length ≤ most := by
  unfold bkF at h
  split at h
  · rename_i hh
    have h1 := (Classical.choose_spec hh).1.1
    have h2 := (Classical.choose_spec hh).2
    simp only [Option.some.injEq] at h
    rw [← h, List.length_cons, wyF_len]
    omega
  · exact absurd h (by simp)
theorem ck_42 {P : List (List Int)} (h : ckE P = 42) : clE P = 0 := by
  unfold ckE at h
  split at h
  · assumption
  · unfold clE at h
    split at h
    · simp at h
    · split at h <;> simp at h
theorem RtC.shun {B B' : Nat} {S : Nat → Prop} {w : World} {rb : Nat} {a v u : Value} {g go gw n : Nat} {cvs : List Value} {C : Nat → List Int} {Ob : List Bool} {Wt L zs : List Int} (h : RtC B S w rb a v g go gw n cvs C Ob Wt L) (ho : OG (Value.int .i64) B' 3 w u zs) (hap : ∀ q, u.ownBlock = some q → v.ownBlock ≠ some q ∧ q ≠ gw) : ∀ q, u.ownBlock = some q → ¬ RtS rb go gw v q := by
  intro q hq e
  rcases e with e | e | e | e
  · exact ho.neT h.ln.box (by decide) (by rw [hq, e])
  · exact ho.neO h.out (by decide) hq (by rw [e]; rfl)
  · exact (hap q hq).2 e
  · exact (hap q hq).1 e
end Go.Proofs.YthdpomgpcblpeaaGreat

namespace Go.Proofs.YthdpomgpcblpeaaGreat
set_option linter.unusedVariables false
section
variable {P : List (List Int)} {T : List Int}
theorem wk_trans {s u : Nat} {a : Nat} (h : Wk P T s a u) : ∀ (b v : Nat), Wk P T u b v → Wk P T s (b + a) v := by
  intro b
  induction b with
  | zero => intro v hv; have e : v = u := hv
            subst e; rw [Nat.zero_add]; exact h
  | succ b ih =>
    rintro v ⟨p, h1, h2, h3⟩
    rw [Nat.succ_add]
    exact ⟨p, h1, h2, ih p h3⟩
/-- A walk avoids a point that can be put out. -/
theorem wk_rdy {s i : Nat} (hi : ∀ p ∈ P.getD i [], p ∈ T) (hs : s ≠ i) : ∀ (m v : Nat), Wk P T s m v → Wk P (T ++ [(i : Int)]) s m v := by
  intro m
  induction m with
  | zero => intro v h; exact h
  | succ m ih =>
    rintro v ⟨p, h1, h2, h3⟩
    refine ⟨p, h1, fun hm => ?_, ih p h3⟩
    rcases List.mem_append.1 hm with e | e
    · exact h2 e
    · rw [List.mem_singleton] at e
      have e2 : p = i := by omega
      subst e2
      cases m with
      | zero => exact hs h3.symm
      | succ m => obtain ⟨q, q1, q2, _⟩ := h3; exact q2 (hi _ q1)
/-- A walk that meets a point, or not. -/
theorem wk_split {s k : Nat} (hk : (k : Int) ∉ T) : ∀ (m v : Nat), Wk P T s m v → Wk P (T ++ [(k : Int)]) s m v ∨ ∃ a b, Wk P T k b v ∧ Wk P T s a k ∧ b + a = m := by
  intro m
  induction m with
  | zero => intro v h; exact Or.inl h
  | succ m ih =>
    rintro v ⟨p, h1, h2, h3⟩
    by_cases e : p = k
    · subst e; exact Or.inr ⟨m, 1, ⟨p, h1, h2, rfl⟩, h3, by omega⟩
    · rcases ih p h3 with h | ⟨a, b, g1, g2, g3⟩
      · refine Or.inl ⟨p, h1, fun hm => ?_, h⟩
        rcases List.mem_append.1 hm with e2 | e2
        · exact h2 e2
        · rw [List.mem_singleton] at e2; omega
      · exact Or.inr ⟨a, b + 1, ⟨p, h1, h2, g1⟩, g2, by omega⟩
/-- A way back among what is not out. -/
def HasC (P : List (List Int)) (T : List Int) : Prop := ∃ v m : Nat, v < P.length ∧ (v : Int) ∉ T ∧ 1 ≤ m ∧ Wk P T v m v
theorem HasC.rdy {i : Nat} (h : HasC P T) (hi : ∀ p ∈ P.getD i [], p ∈ T) : HasC P (T ++ [(i : Int)]) := by
  obtain ⟨v, m, h1, h2, h3, h4⟩ := h
  have hne : v ≠ i := fun e => by
    subst e
    obtain ⟨k, rfl⟩ : ∃ k, m = k + 1 := ⟨m - 1, by omega⟩
    obtain ⟨q, q1, q2, _⟩ := h4
    exact q2 (hi _ q1)
  refine ⟨v, m, h1, fun hm => ?_, h3, wk_rdy hi hne m v h4⟩
  rcases List.mem_append.1 hm with e | e
  · exact h2 e
  · rw [List.mem_singleton] at e; omega
theorem HasC.skip {k : Nat} (h : HasC P T) (hk : (k : Int) ∉ T) (hn : ∀ m, 1 ≤ m → ¬ Wk P T k m k) : HasC P (T ++ [(k : Int)]) := by
  obtain ⟨v, m, h1, h2, h3, h4⟩ := h
  have hne : v ≠ k := fun e => by subst e; exact hn m h3 h4
  rcases wk_split hk m v h4 with h | ⟨a, b, g1, g2, g3⟩
  · refine ⟨v, m, h1, fun hm => ?_, h3, h⟩
    rcases List.mem_append.1 hm with e | e
    · exact h2 e
    · rw [List.mem_singleton] at e; omega
  · exact absurd (wk_trans g1 a k g2) (hn _ (by omega))
/-- Where each that is left hangs on one that is left there is a way back. -/
theorem hasC_of (hP : WfP P) {u : Nat} (hu : u < P.length) (huT : (u : Int) ∉ T) (hno : ∀ i, i < P.length → ¬ rdy P T i) : HasC P T := by
  rcases Classical.em (HasC P T) with h | hc
  · exact h
  · exfalso
    have key : ∀ t : Nat, ∃ (x : Nat) (l : List Int), l.length = t ∧ Pts P.length ((x : Int) :: l) ∧ (x : Int) ∉ T ∧ ∀ y : Nat, (y : Int) ∈ (x : Int) :: l → ∃ m, Wk P T x m y := by
      intro t
      induction t with
      | zero => exact ⟨u, [], rfl, ⟨by simp, fun x hx => by simp at hx; omega⟩, huT, fun y hy => by
          simp at hy
          exact ⟨0, by show y = u; omega⟩⟩
      | succ t ih =>
        obtain ⟨x, l, hl, hp, hx, hw⟩ := ih
        have hxn : x < P.length := by have := hp.2 (x : Int) (by simp); omega
        have hnr := hno x hxn
        have : ∃ p ∈ P.getD x [], p ∉ T := by
          rcases Classical.em (∃ p ∈ P.getD x [], p ∉ T) with h | h
          · exact h
          · exact absurd ⟨hx, fun p hp => Classical.byContradiction fun hpT => h ⟨p, hp, hpT⟩⟩ hnr
        obtain ⟨p0, hp0, hpT⟩ := this
        obtain ⟨p, rfl, hpn⟩ := hP x p0 hp0
        have h1 : Wk P T p 1 x := ⟨p, hp0, hpT, rfl⟩
        have hnew : (p : Int) ∉ (x : Int) :: l := fun hm => by
          obtain ⟨m, hm⟩ := hw p hm
          exact hc ⟨p, m + 1, hpn, hpT, by omega, wk_trans h1 m p hm⟩
        refine ⟨p, (x : Int) :: l, by simp [hl], ⟨List.nodup_cons.2 ⟨hnew, hp.1⟩, fun y hy => ?_⟩, hpT, fun y hy => ?_⟩
        · rcases List.mem_cons.1 hy with e | e
          · subst e; omega
          · exact hp.2 y e
        · rcases List.mem_cons.1 hy with e | e
          · exact ⟨0, by show y = p; omega⟩
          · obtain ⟨m, hm⟩ := hw y e
            exact ⟨m + 1, wk_trans h1 m y hm⟩
    obtain ⟨x, l, hl, hp, _⟩ := key P.length
    have := hp.len
    rw [List.length_cons, hl] at this
    omega
/-- What the points that can be put out leave. -/
theorem out_all : ∀ (f : Nat) (T : List Int), Pts P.length T → (HasC P T → HasC P (outF P f T)) ∧ Pts P.length (outF P f T) ∧ (∀ x ∈ T, x ∈ outF P f T) ∧ (f = P.length - T.length → ∀ i, i < P.length → ¬ rdy P (outF P f T) i) := by
  intro f
  induction f with
  | zero =>
    intro T hT
    refine ⟨id, hT, fun _ h => h, fun e i hi hr => ?_⟩
    have := (hT.snoc hi hr.1).len
    rw [List.length_append, List.length_singleton] at this
    omega
  | succ f ih =>
    intro T hT
    rcases hn : nxtF P T with _ | i
    · have e : outF P (f + 1) T = T := by rw [outF, hn]
      rw [e]
      refine ⟨id, hT, fun _ h => h, fun _ i hi hr => ?_⟩
      unfold nxtF at hn
      rw [List.find?_eq_none] at hn
      have := hn i (by simpa using hi)
      simp at this
      exact this hr
    · have e : outF P (f + 1) T = outF P f (T ++ [(i : Int)]) := by rw [outF, hn]
      have hi : i < P.length ∧ rdy P T i := by
        unfold nxtF at hn
        have h1 := List.find?_some hn
        have h2 := List.mem_of_find?_eq_some hn
        exact ⟨by simpa using h2, by simpa using h1⟩
      obtain ⟨a, b, c, d⟩ := ih (T ++ [(i : Int)]) (hT.snoc hi.1 hi.2.1)
      rw [e]
      refine ⟨fun h => a (h.rdy hi.2.2), b, fun x hx => c x (List.mem_append_left _ hx), fun hf => d ?_⟩
      rw [List.length_append, List.length_singleton]
      omega
end
/-- A way that leads back. -/
structure CyOk (P : List (List Int)) (c : List Int) : Prop where
  ne : 0 < c.length
  pt : ∀ (i : Nat) (x : Int), c[i]? = some x → ∃ v : Nat, x = (v : Int) ∧ v < P.length
  nx : ∀ (i : Nat) (x y : Int), c[i]? = some x → c[(i + 1) % c.length]? = some y → y ∈ P.getD x.toNat []
  nd : c.Nodup
  ge : ∀ (i : Nat) (x y : Int), c[i]? = some x → c[0]? = some y → y ≤ x
/-- The shortest way back is one. -/
theorem way_ok {P : List (List Int)} {T : List Int} {s L : Nat} (hP : WfP P) (hs : s < P.length) (hsT : (s : Int) ∉ T) (hL : MinC P T s L) :
    let c := (s : Int) :: wyF P (Mc P T s) (L - 1) (s : Int)
    c.length = L ∧ c.Nodup ∧ (∀ (i : Nat) (x : Int), c[i]? = some x → ∃ v : Nat, x = (v : Int) ∧ v < P.length ∧ (v : Int) ∉ T) ∧ (∀ (i : Nat) (x y : Int), c[i]? = some x → c[(i + 1) % c.length]? = some y → y ∈ P.getD x.toNat []) := by
  intro c
  have hl0 := hL.1
  have hlen : c.length = L := by show ((s : Int) :: _).length = L; rw [List.length_cons, wyF_len]; omega
  have hat := way_at hP hs hsT hL (Mc_mx P T s L)
  have hdist : ∀ (i j : Nat) (x : Int), i < j → c[i]? = some x → c[j]? = some x → False := by
    intro i j x hij h1 h2
    have hj : j < L := by have := (List.getElem?_eq_some_iff.1 h2).1; omega
    obtain ⟨v, g1, _, _, g4, g5⟩ := hat i (by omega)
    obtain ⟨u, k1, _, _, k4, k5⟩ := hat j hj
    have e1 : x = (v : Int) := by have := h1.symm.trans g1; simpa using this
    have e2 : x = (u : Int) := by have := h2.symm.trans k1; simpa using this
    have e3 : v = u := by omega
    subst e3
    have hd := k5 (by omega)
    rcases Nat.eq_zero_or_pos i with e | e
    · have := g4 e
      subst this
      exact hd.2 0 (by omega) rfl
    · have := (g5 e).uniq hd
      omega
  refine ⟨hlen, ?_, fun i x hx => ?_, fun i x y hx hy => ?_⟩
  · rw [List.nodup_iff_pairwise_ne, List.pairwise_iff_getElem]
    intro i j hi hj hij e
    exact hdist i j c[i] hij (List.getElem?_eq_getElem hi) (by rw [e]; exact List.getElem?_eq_getElem hj)
  · have hi : i < L := by have := (List.getElem?_eq_some_iff.1 hx).1; omega
    obtain ⟨v, g1, g2, g3, _⟩ := hat i hi
    have e1 : x = (v : Int) := by have := hx.symm.trans g1; simpa using this
    exact ⟨v, e1, g2, g3⟩
  · have hi : i < L := by have := (List.getElem?_eq_some_iff.1 hx).1; omega
    obtain ⟨v, g1, g2, g3, g4, g5⟩ := hat i hi
    have e1 : x = (v : Int) := by have := hx.symm.trans g1; simpa using this
    subst e1
    rw [Int.toNat_natCast]
    rw [hlen] at hy
    by_cases hlast : i + 1 < L
    · rw [Nat.mod_eq_of_lt hlast] at hy
      have hst := wy_step P (Mc P T s) (L - 1) (s : Int) i (v : Int) (by omega) g1
      rw [Int.toNat_natCast] at hst
      have e2 : y = lsF (Mc P T s) ((L - 1 - i : Nat) : Int) (P.getD v []) := by have := hy.symm.trans hst; simpa using this
      have hw : Wk P T s (L - i) v := by
        rcases Nat.eq_zero_or_pos i with e | e
        · subst e; rw [g4 rfl]; exact hL.2.1
        · exact (g5 e).1
      have hmin : ∀ m, 1 ≤ m → m < L - i → ¬ Wk P T s m v := by
        rcases Nat.eq_zero_or_pos i with e | e
        · subst e; rw [g4 rfl]; exact hL.2.2
        · exact fun m _ h => (g5 e).2 m h
      have e3 : L - i = (L - 1 - i) + 1 := by omega
      rw [e3] at hw
      obtain ⟨p, hp, hpT, hwp⟩ := hw
      obtain ⟨p', e4, hp'⟩ := hP v _ hp
      have e5 : p = p' := by omega
      subst e5
      have hD : Dst P T s (L - 1 - i) p := ⟨hwp, fun m hm hw2 => hmin (m + 1) (by omega) (by omega) ⟨p, hp, hpT, hw2⟩⟩
      obtain ⟨s1, _, _⟩ := lsF_spec (M := Mc P T s) (left := ((L - 1 - i : Nat) : Int)) (L := P.getD v []) (fun x hx => by obtain ⟨q, e, _⟩ := hP v x hx; omega) ⟨_, hp, Mc_iff.2 ⟨p, rfl, hp', hpT, hD⟩⟩
      rw [e2]; exact s1
    · have e2 : i + 1 = L := by omega
      rw [e2, Nat.mod_self] at hy
      have e3 : y = (s : Int) := by have h0 : c[0]? = some (s : Int) := rfl
                                    have := hy.symm.trans h0; simpa using this
      have hw : Wk P T s 1 v := by
        rcases Nat.eq_zero_or_pos i with e | e
        · subst e; have e4 : L = 1 := by omega
          have := hL.2.1; rw [e4] at this; rw [g4 rfl]; exact this
        · have := (g5 e).1; rw [show L - i = 1 by omega] at this; exact this
      obtain ⟨p, hp, _, hwp⟩ := hw
      have e5 : p = s := hwp
      subst e5
      rw [e3]; exact hp
theorem minC_le {P : List (List Int)} {T : List Int} {s L : Nat} (hP : WfP P) (hs : s < P.length) (hsT : (s : Int) ∉ T) (hL : MinC P T s L) : L ≤ P.length := by
  obtain ⟨h1, h2, h3, _⟩ := way_ok hP hs hsT hL
  have : Pts P.length ((s : Int) :: wyF P (Mc P T s) (L - 1) (s : Int)) := ⟨h2, fun x hx => by
    obtain ⟨i, hi, e⟩ := List.getElem_of_mem hx
    obtain ⟨v, e2, h4, _⟩ := h3 i x (by rw [← e]; exact List.getElem?_eq_getElem hi)
    omega⟩
  have := this.len
  rw [h1] at this
  exact this
theorem minC_of {P : List (List Int)} {T : List Int} {s m : Nat} (h1 : 1 ≤ m) (h : Wk P T s m s) : ∃ L, MinC P T s L := by
  have key : ∀ n m, m ≤ n → 1 ≤ m → Wk P T s m s → ∃ L, MinC P T s L := by
    intro n
    induction n with
    | zero => intro m hm h1 _; omega
    | succ n ih =>
      intro m hm h1 h
      rcases Classical.em (∃ m', 1 ≤ m' ∧ m' < m ∧ Wk P T s m' s) with ⟨m', a, b, c⟩ | hno
      · exact ih m' (by omega) a c
      · exact ⟨m, h1, h, fun m' a b c => hno ⟨m', a, b, c⟩⟩
  exact key m m (Nat.le_refl _) h1 h
theorem bkF_ok {P : List (List Int)} {T : List Int} {s most : Nat} {c : List Int} (hP : WfP P) (hs : s < P.length) (hsT : (s : Int) ∉ T) (hlow : ∀ i : Nat, i < s → (i : Int) ∈ T) (h : bkF P T s most = some c) : CyOk P c := by
  unfold bkF at h
  split at h
  · rename_i hh
    have hL := (Classical.choose_spec hh).1
    simp only [Option.some.injEq] at h
    obtain ⟨h1, h2, h3, h4⟩ := way_ok hP hs hsT hL
    rw [← h]
    refine ⟨by rw [h1]; exact hL.1, fun i x hx => by obtain ⟨v, a, b, _⟩ := h3 i x hx; exact ⟨v, a, b⟩, h4, h2, fun i x y hx hy => ?_⟩
    have e : y = (s : Int) := by simpa using hy.symm
    obtain ⟨v, a, _, hv⟩ := h3 i x hx
    rw [e, a]
    rcases Nat.lt_or_ge v s with e2 | e2
    · exact absurd (hlow v e2) hv
    · omega
  · exact absurd h (by simp)
theorem bkF_no {P : List (List Int)} {T : List Int} {s most : Nat} (hP : WfP P) (hs : s < P.length) (hsT : (s : Int) ∉ T) (hm : P.length ≤ most) (h : bkF P T s most = none) : ∀ m, 1 ≤ m → ¬ Wk P T s m s := by
  intro m h1 hw
  obtain ⟨L, hL⟩ := minC_of h1 hw
  have hle := minC_le hP hs hsT hL
  have := bkF_some hL (by omega) (Mc_mx P T s L) (most := most)
  rw [h] at this
  exact absurd this (by simp)
/-- The rounds of Cycle. -/
theorem cySt_ok {P : List (List Int)} (hP : WfP P) (h42 : (outL P).length < P.length) : ∀ k, k ≤ P.length → (∀ i : Nat, i < k → (i : Int) ∈ (cySt P k).1) ∧ Pts P.length (cySt P k).1 ∧ (∀ i, i < P.length → ¬ rdy P (cySt P k).1 i) ∧ (((cySt P k).2.1 = [] ∧ (cySt P k).2.2 = P.length ∧ HasC P (cySt P k).1) ∨ CyOk P (cySt P k).2.1) := by
  intro k
  induction k with
  | zero =>
    intro _
    have e : cySt P 0 = (outL P, [], P.length) := rfl
    have hpn : Pts P.length ([] : List Int) := ⟨List.nodup_nil, by simp⟩
    obtain ⟨_, a, _, b⟩ := out_all (P := P) P.length [] hpn
    have hnr : ∀ i, i < P.length → ¬ rdy P (outL P) i := fun i hi => b (by simp) i hi
    rw [e]
    refine ⟨fun i hi => by omega, a, hnr, Or.inl ⟨rfl, rfl, ?_⟩⟩
    -- one that is left
    have : ∃ u : Nat, u < P.length ∧ (u : Int) ∉ outL P := by
      rcases Classical.em (∃ u : Nat, u < P.length ∧ (u : Int) ∉ outL P) with h | h
      · exact h
      · exfalso
        have hall : ∀ u : Nat, u < P.length → (u : Int) ∈ outL P := fun u hu => Classical.byContradiction fun hn => h ⟨u, hu, hn⟩
        have key : ∀ n (l : List Int), (∀ u : Nat, u < n → (u : Int) ∈ l) → n ≤ l.length := by
          intro n
          induction n with
          | zero => intro l _; exact Nat.zero_le _
          | succ n ih =>
            intro l hl
            have h1 := hl n (by omega)
            have h2 := ih (l.erase (n : Int)) (fun u hu => (List.mem_erase_of_ne (by omega)).2 (hl u (by omega)))
            rw [List.length_erase_of_mem h1] at h2
            have := List.length_pos_of_mem h1
            omega
        have := key P.length (outL P) hall
        omega
    obtain ⟨u, hu, huT⟩ := this
    exact hasC_of hP hu huT hnr
  | succ k ih =>
    intro hk
    obtain ⟨h1, h2, h3, h4⟩ := ih (by omega)
    rw [cySt_succ]
    generalize cySt P k = st at h1 h2 h3 h4 ⊢
    obtain ⟨T, best, most⟩ := st
    unfold cyStep
    by_cases hkT : (k : Int) ∈ T
    · rw [if_pos hkT]
      refine ⟨fun i hi => ?_, h2, h3, h4⟩
      rcases Nat.lt_or_ge i k with e | e
      · exact h1 i e
      · have : i = k := by omega
        subst this; exact hkT
    · rw [if_neg hkT]
      have hp := h2.snoc (show k < P.length by omega) hkT
      obtain ⟨a, b, c, d⟩ := out_all (P := P) (P.length - (T ++ [(k : Int)]).length) (T ++ [(k : Int)]) hp
      refine ⟨fun i hi => c _ ?_, b, d rfl, ?_⟩
      · rcases Nat.lt_or_ge i k with e | e
        · exact List.mem_append_left _ (h1 i e)
        · have : i = k := by omega
          subst this; simp
      · show ((bkF P T k most).getD best = [] ∧ _) ∨ CyOk P ((bkF P T k most).getD best)
        rcases hb : bkF P T k most with _ | c
        · simp only [Option.getD_none]
          rcases h4 with ⟨g1, g2, g3⟩ | g
          · have e2 : most = P.length := g2
            exact Or.inl ⟨g1, e2, a (g3.skip hkT (bkF_no hP (by omega) hkT (by omega) hb))⟩
          · exact Or.inr g
        · exact Or.inr (bkF_ok hP (by omega) hkT h1 hb)
theorem cyL_ok {P : List (List Int)} (h : ckE P = 42) : CyOk P (cyL P) := by
  have hz := cl_zero (ck_42 h)
  have hP : WfP P := outs_no hz.1
  have hlt : (outL P).length < P.length := by
    have h2 := h
    unfold ckE at h2
    rw [if_pos (ck_42 h)] at h2
    split at h2
    · assumption
    · simp at h2
  obtain ⟨h1, _, _, h4⟩ := cySt_ok hP hlt P.length (Nat.le_refl _)
  unfold cyL
  rw [if_pos h]
  rcases h4 with ⟨_, _, v, m, a, b, _⟩ | h4
  · exact absurd (h1 v a) b
  · exact h4
end Go.Proofs.YthdpomgpcblpeaaGreat
