/-
  Proved here: the document's check and Barren of layer 17.
  Proved here: the law that holds what is kept with apart against what package sep says of a new point, walked.
  Proved here: the document's needed of layer 17: does a point's table tell something?
-/
import Derived.Test.YthdpomgpcblpeaaGreatPsT
import Derived.Test.YthdpomgpcblpeaaGreatSpKAll
import Derived.Test.YthdpomgpcblpeaaGreatMoMAll
namespace Go.Proofs.YthdpomgpcblpeaaGreat
set_option linter.unusedVariables false
open Go.RowKit Go.Shelf Go.Sort Go.Lib
theorem ns_one {P : List (List Int)} {n : Nat} {a G : List Int} (h0 : ckE P = 0) : nsE P n (a ++ G) = if (noPts (n : Int) a || noPts (n : Int) G) = true then 3 else 0 := by
  unfold nsE
  rw [if_neg (by rw [h0]; decide)]
  unfold noPts
  rw [List.any_append]
set_option maxRecDepth 1000000 in
set_option maxHeartbeats 3200000 in
theorem refCheck17 (pv av qv : Value) (pvs : List Value) (P : List (List Int)) (a G : List Int) (w : World) (h : RRD w pv pvs P) (n : Nat) (hn : P.length = n) (hb : n ≤ 100000) (ha : RG (Value.int .i64) w av a) (hq : RG (Value.int .i64) w qv G) :
    Calls Tryz.prog 17 #[pv, av, qv] w fun e w' => e = .returned (.int .i64 (nsE P n (a ++ G))) ∧ Below w.heap.size w w' := by
  have CC : Hid _ := refCheckD pv pvs P w h n hn hb
  obtain ⟨po, pn, pc, rfl⟩ : ∃ o n c, pv = .slice o n c := by obtain ⟨ao, cap, e⟩ := h.out.sl; exact ⟨_, _, _, e⟩
  obtain rfl : pn = n := by rw [← hn, ← h.len, h.out.len]
  obtain ⟨ao, an, ac, rfl⟩ : ∃ o n c, av = .slice o n c := by obtain ⟨ao, cap, e⟩ := ha.sl; exact ⟨_, _, _, e⟩
  obtain ⟨qo, qn, qc, rfl⟩ : ∃ o n c, qv = .slice o n c := by obtain ⟨ao, cap, e⟩ := hq.sl; exact ⟨_, _, _, e⟩
  have hanm : an ≤ 9223372036854775807 := by have := ha.room.2.1; have := ha.room.1; unfold maxLen at *; omega
  have hqnm : qn ≤ 9223372036854775807 := by have := hq.room.2.1; have := hq.room.1; unfold maxLen at *; omega
  have HAV : Hid (RG (Value.int .i64) w (.slice ao an ac) a) := ha
  have HAL : Hid (a.length = an) := ha.len
  have HQ : Hid (RG (Value.int .i64) w (.slice qo qn qc) G) := hq
  have HQL : Hid (G.length = qn) := hq.len
  clear h hn ha hq
  go_enter Tryz.func17, Tryz.ntmps17
  go_wp2_with fail
  refine Calls.mono CC.out ?_
  rintro e y ⟨rfl, hy⟩
  have HB : Hid (Below w.heap.size w y) := hy
  clear CC hy
  by_cases h0 : ckE P = 0
  · have HE : Hid (nsE P pn (a ++ G) = if (noPts (pn : Int) a || noPts (pn : Int) G) = true then 3 else 0) := ns_one h0
    rw [h0]
    clear h0
    go_wp2
    go_loopg [8] an (fun g1 v8 wr => ∃ i : Nat, v8 = .int .i64 i ∧ i ≤ an ∧ an - i ≤ g1 ∧ Hid (noPts (pn : Int) (a.take i) = false) ∧ Hid (Below w.heap.size w wr))
    case atStart => exact ⟨0, rfl, Nat.zero_le _, by omega, rfl, HB⟩
    case round =>
      clear HB
      obtain ⟨i, rfl, hin, hg1, HA, HB⟩ := hrel
      by_cases hlt : i < an
      · have hltz : (i : Int) < (an : Int) := by omega
        obtain ⟨x, gx, ox, hx1, rfl, hx0⟩ := HAV.out.at hlt
        have hx2 : wr.cell? ⟨gx, ox + i, none⟩ = some (.int .i64 x) := keepR HB.out hx0
        have HS : Hid (noPts (pn : Int) (a.take (i + 1)) = noPt (pn : Int) x) := by show _ = _; rw [noPts_step hx1, HA.out, Bool.false_or]
        have HH : Hid (noPt (pn : Int) x = true → nsE P pn (a ++ G) = 3) := fun hx => by rw [HE.out, noPts_hit hx1 hx, Bool.true_or]; simp
        clear hx0 hx1 HA
        by_cases hx : x < 0
        · have hE := HH.out (by simp [noPt, hx])
          have HE2 : Hid (nsE P pn (a ++ G) = 3) := hE
          clear hE
          go_wp2
          go_ret
          exact ⟨by rw [HE2.out]; rfl, HB.out⟩
        · by_cases hx3 : (pn : Int) ≤ x
          · have hE := HH.out (by simp [noPt, hx3])
            have HE2 : Hid (nsE P pn (a ++ G) = 3) := hE
            clear hE
            go_wp2
            go_ret
            exact ⟨by rw [HE2.out]; rfl, HB.out⟩
          · have HN : Hid (noPts (pn : Int) (a.take (i + 1)) = false) := by show _ = _; rw [HS.out]; simp [noPt, hx]; omega
            clear HS HH
            go_wp2
            go_roundg (an - (i + 1))
            case measure => omega
            case rel => exact ⟨i + 1, by go_num, by omega, Nat.le_refl _, HN, HB⟩
      · have hltz : ¬ (i : Int) < (an : Int) := by omega
        have HNA : Hid (noPts (pn : Int) a = false) := by
          show _ = _
          have h := HA.out
          rw [List.take_of_length_le (by rw [HAL.out]; omega)] at h
          exact h
        clear HA hltz hin hg1
        go_wp2
        go_loopg [9] qn (fun g1 v9 wr => ∃ i : Nat, v9 = .int .i64 i ∧ i ≤ qn ∧ qn - i ≤ g1 ∧ Hid (noPts (pn : Int) (G.take i) = false) ∧ Hid (Below w.heap.size w wr))
        case atStart => exact ⟨0, rfl, Nat.zero_le _, by omega, rfl, HB⟩
        case round =>
          clear HB
          obtain ⟨i, rfl, hin, hg1, HA, HB⟩ := hrel
          by_cases hlt : i < qn
          · have hltz : (i : Int) < (qn : Int) := by omega
            obtain ⟨x, gx, ox, hx1, rfl, hx0⟩ := HQ.out.at hlt
            have hx2 : wr.cell? ⟨gx, ox + i, none⟩ = some (.int .i64 x) := keepR HB.out hx0
            have HS : Hid (noPts (pn : Int) (G.take (i + 1)) = noPt (pn : Int) x) := by show _ = _; rw [noPts_step hx1, HA.out, Bool.false_or]
            have HH : Hid (noPt (pn : Int) x = true → nsE P pn (a ++ G) = 3) := fun hx => by rw [HE.out, noPts_hit hx1 hx, Bool.or_true]; simp
            clear hx0 hx1 HA
            by_cases hx : x < 0
            · have hE := HH.out (by simp [noPt, hx])
              have HE2 : Hid (nsE P pn (a ++ G) = 3) := hE
              clear hE
              go_wp2
              go_ret
              exact ⟨by rw [HE2.out]; rfl, HB.out⟩
            · by_cases hx3 : (pn : Int) ≤ x
              · have hE := HH.out (by simp [noPt, hx3])
                have HE2 : Hid (nsE P pn (a ++ G) = 3) := hE
                clear hE
                go_wp2
                go_ret
                exact ⟨by rw [HE2.out]; rfl, HB.out⟩
              · have HN : Hid (noPts (pn : Int) (G.take (i + 1)) = false) := by show _ = _; rw [HS.out]; simp [noPt, hx]; omega
                clear HS HH
                go_wp2
                go_roundg (qn - (i + 1))
                case measure => omega
                case rel => exact ⟨i + 1, by go_num, by omega, Nat.le_refl _, HN, HB⟩
          · have hltz : ¬ (i : Int) < (qn : Int) := by omega
            have HE2 : Hid (nsE P pn (a ++ G) = 0) := by
              show _ = _
              have h := HA.out
              rw [List.take_of_length_le (by rw [HQL.out]; omega)] at h
              rw [HE.out, HNA.out, h]; rfl
            clear HA
            go_wp2
            go_ret
            exact ⟨by rw [HE2.out]; rfl, HB.out⟩
  · have HE : Hid (nsE P pn (a ++ G) = ckE P) := by show _ = _; unfold nsE; rw [if_pos h0]
    obtain ⟨c, hc⟩ : ∃ c, c = ckE P := ⟨_, rfl⟩
    rw [← hc] at h0 ⊢
    have HC : Hid (c = ckE P) := hc
    have hcz : (c != (0 : Int)) = true := by simpa using h0
    clear hc h0
    go_wp2
    go_ret
    exact ⟨by rw [HE.out, ← HC.out]; rfl, HB.out⟩
theorem below_grown7 {w w' : World} {v : Value} (hg : w.grownBy w' v.ownBlock) (hv : v.ownBlock = none) : Below w.heap.size w w' := ⟨hg.os, hg.tape, hg.output, hg.size, fun q hq => hg.block q hq (by rw [hv]; simp)⟩
set_option maxRecDepth 1000000 in
set_option maxHeartbeats 6400000 in
theorem refBarren (pv av qv : Value) (pvs : List Value) (P : List (List Int)) (a G : List Int) (w : World) (h : RRD w pv pvs P) (n : Nat) (hn : P.length = n) (hb : n ≤ 100000) (hbl : ∀ i, (P.getD i []).length ≤ 100000) (ha : RG (Value.int .i64) w av a) (hal : a.length ≤ 500000) (hq : RG (Value.int .i64) w qv G) (hql : G.length ≤ 500000) :
    Calls Tryz.prog 13 #[pv, av, qv] w fun e w' => PrE w.heap.size P n a G (BaP P n a G) w' e ∧ Below w.heap.size w w' := by
  obtain ⟨i0, hi, hz0, hz1, hz2⟩ := info_parts Tryz.infoI
  have CC : Hid _ := refCheck17 pv av qv pvs P a G w h n hn hb ha hq
  obtain ⟨po, pn, pc, rfl⟩ : ∃ o n c, pv = .slice o n c := by obtain ⟨ao, cap, e⟩ := h.out.sl; exact ⟨_, _, _, e⟩
  obtain rfl : pn = n := by rw [← hn, ← h.len, h.out.len]
  obtain ⟨ao, an, ac, rfl⟩ : ∃ o n c, av = .slice o n c := by obtain ⟨ao, cap, e⟩ := ha.sl; exact ⟨_, _, _, e⟩
  obtain ⟨qo, qn, qc, rfl⟩ : ∃ o n c, qv = .slice o n c := by obtain ⟨ao, cap, e⟩ := hq.sl; exact ⟨_, _, _, e⟩
  have HR : Hid (∀ W, Below w.heap.size w W → RRD W (.slice po pn pc) pvs P) := fun W hW => h.below (Nat.le_refl _) hW
  have HA : Hid (∀ W, Below w.heap.size w W → RG (Value.int .i64) W (.slice ao an ac) a) := fun W hW => ha.below (Nat.le_refl _) hW
  have HQ : Hid (∀ W, Below w.heap.size w W → RG (Value.int .i64) W (.slice qo qn qc) G) := fun W hW => hq.below (Nat.le_refl _) hW
  have HN : Hid (P.length = pn) := hn
  have HAL : Hid (a.length ≤ 500000) := hal
  have HQL : Hid (G.length ≤ 500000) := hql
  have HBL : Hid (∀ i, (P.getD i []).length ≤ 100000) := hbl
  clear h hn ha hal hq hql hbl
  go_enter Tryz.func13, Tryz.ntmps13
  go_wp2_with fail
  refine Calls.mono CC.out ?_
  rintro e y ⟨rfl, hy⟩
  have HB : Hid (Below w.heap.size w y) := hy
  clear CC hy
  by_cases h0 : nsE P pn (a ++ G) = 0
  case neg =>
    obtain ⟨c, hc⟩ : ∃ c, c = nsE P pn (a ++ G) := ⟨_, rfl⟩
    have HC : Hid (c = nsE P pn (a ++ G)) := hc
    rw [← hc] at h0 ⊢
    have hcz : (c != (0 : Int)) = true := by simpa using h0
    have HE : Hid (PrE w.heap.size P pn a G (BaP P pn a G) y (.returned (.tuple #[.slice none 0 0, .int .i64 c]))) := ⟨none, 0, 0, [], by rw [HC.out], OG.nil _ _ _, fun _ => ⟨rfl, rfl, rfl, rfl⟩, fun h => absurd (HC.out.trans h) h0⟩
    clear hc h0
    go_wp2
    go_ret2
    exact ⟨HE.out, HB.out⟩
  obtain ⟨hck, hna, hng⟩ := ns_both h0
  have H0 : Hid (nsE P pn (a ++ G) = 0) := h0
  have HCK : Hid (ckE P = 0) := hck
  have HNS : Hid (noPts (pn : Int) (a ++ G) = false) := by
    show _ = _
    unfold noPts at hna hng ⊢
    rw [List.any_append, hna, hng]; rfl
  rw [h0]
  clear h0 hck hna hng
  go_wp2_with (at_builtin; refine wpList_appG _ (fun _ => rfl) rfl _ _ 23 rfl w.heap.size 3 i0 (.int .i64 0) 8 Tryz.underlying23 hi hz0 hz1 hz2 rfl _ _ [] a rfl (OG.nil _ _ _) rfl (HA.out y HB.out) (by have := HAL.out; unfold maxLen; simp only [List.length_nil]; omega) (by have := HAL.out; simp only [List.length_nil]; omega) HB.out.size ?_)
  intro v1 y1 ho1 hg1
  replace ho1 : OG (Value.int .i64) w.heap.size 3 y1 v1 a := ho1
  have HB2 : Hid (Below w.heap.size w y1) := bstepB HB.out (below_grown7 hg1 rfl)
  obtain ⟨o1, n1, c1, rfl⟩ : ∃ o n c, v1 = .slice o n c := by obtain ⟨ao, cap, e, -⟩ := ho1.sl; exact ⟨_, _, _, e⟩
  have HO2 : Hid (OG (Value.int .i64) w.heap.size 3 y1 (.slice o1 n1 c1) a) := ho1
  clear ho1 hg1 HB
  go_wp2_with (at_builtin; refine wpList_appG _ (fun _ => rfl) rfl _ _ 23 rfl w.heap.size 3 i0 (.int .i64 0) 8 Tryz.underlying23 hi hz0 hz1 hz2 rfl _ _ a G rfl HO2.out rfl (HQ.out y1 HB2.out) (by have := HAL.out; have := HQL.out; unfold maxLen; omega) (by have := HAL.out; have := HQL.out; omega) HB2.out.size ?_)
  intro v2 y2 ho2 hg2
  have HB3 : Hid (Below w.heap.size w y2) := HO2.out.grown HB2.out HB2.out.size hg2
  obtain ⟨o2, n2, c2, rfl⟩ : ∃ o n c, v2 = .slice o n c := by obtain ⟨ao, cap, e, -⟩ := ho2.sl; exact ⟨_, _, _, e⟩
  have CA : Hid _ := refAboveD (.slice po pn pc) (.slice o2 n2 c2) pvs P (a ++ G) y2 (HR.out y2 HB3.out) pn HN.out hb HBL.out ho2.rg (by have := HAL.out; have := HQL.out; rw [List.length_append]; omega)
  clear ho2 hg2 HO2 HB2
  go_wp2_with fail
  refine Calls.mono CA.out ?_
  rintro e z ⟨hE, hz⟩
  have HB : Hid (Below w.heap.size w z) := bstepB HB3.out hz
  obtain ⟨lo, ln, lc, c, R, rfl, hl, hab⟩ := hE.abs
  have HRM : Hid (∀ x, x ∈ R ↔ RchP P (a ++ G) x) := by
    obtain ⟨R2, e2, h3⟩ := hab
    obtain rfl : R = R2 := by simpa using e2
    rcases h3 with ⟨h4, _, _⟩ | ⟨_, ⟨h4, _, _⟩ | ⟨_, _, h5, h6⟩⟩
    · exact absurd HCK.out h4
    · rw [HNS.out] at h4; simp at h4
    · exact h6
  have HL : Hid (∀ W, Below z.heap.size z W → RG (Value.int .i64) W (.slice lo ln lc) R) := fun W hW => hl.rg.below (Nat.le_refl _) hW
  have HBZ : Hid (Below z.heap.size z z) := Below.refl _ _
  have HU0 : Hid (UpI 0 (fun x => ¬ RchP P (a ++ G) x) []) := UpI.nil _
  have HO0 : Hid (OG (Value.int .i64) z.heap.size 3 z (.slice none 0 0) []) := OG.nil _ _ _
  clear hE hz hab hl CA HB3 HR HA HQ
  go_wp2
  go_loopg [12, 13] pn (fun g1 v12 v13 wr => ∃ (k : Nat) (ko : Option Addr) (kn kc : Nat) (K : List Int), v13 = .int .i64 k ∧ v12 = .slice ko kn kc ∧ k ≤ pn ∧ pn - k ≤ g1 ∧ Hid (UpI k (fun x => ¬ RchP P (a ++ G) x) K) ∧ Hid (OG (Value.int .i64) z.heap.size 3 wr (.slice ko kn kc) K) ∧ Hid (Below z.heap.size z wr))
  case atStart => exact ⟨0, none, 0, 0, [], rfl, rfl, Nat.zero_le _, by omega, HU0, HO0, HBZ⟩
  case round =>
    clear HU0 HO0 HBZ
    obtain ⟨k, ko, kn, kc, K, rfl, rfl, hkn, hg1, HU, HO, HBZ⟩ := hrel
    by_cases hlt : k < pn
    · have hltz : (k : Int) < (pn : Int) := by omega
      have CH : Hid _ := hasD (.slice lo ln lc) R (k : Int) wr (HL.out wr HBZ.out)
      obtain ⟨t, ht⟩ : ∃ t, t = decide ((k : Int) ∈ R) := ⟨_, rfl⟩
      rw [← ht] at CH
      have HT : Hid (t = decide ((k : Int) ∈ R)) := ht
      clear ht
      go_wp2_with fail
      refine Calls.mono CH.out ?_
      rintro e yy ⟨rfl, hyy⟩
      rw [hyy]
      clear CH hyy yy
      cases t with
      | true =>
        have HU2 : Hid (UpI (k + 1) (fun x => ¬ RchP P (a ++ G) x) K) := HU.out.no (fun h => h ((HRM.out _).1 (of_decide_eq_true HT.out.symm)))
        clear HU HT
        go_wp2
        go_roundg (pn - (k + 1))
        case measure => omega
        case rel => exact ⟨k + 1, _, _, _, K, by first | rfl | go_num, rfl, by omega, Nat.le_refl _, HU2, HO, HBZ⟩
      | false =>
        have HU2 : Hid (UpI (k + 1) (fun x => ¬ RchP P (a ++ G) x) (K ++ [(k : Int)])) := HU.out.yes (fun h => of_decide_eq_false HT.out.symm ((HRM.out _).2 h))
        have HKL : Hid (K.length ≤ 100000) := by have := HU.out.len; show _ ≤ _; omega
        obtain ⟨WA, hWA⟩ : ∃ W, W = wr.alloc (.cells #[.int .i64 (k : Int)] 3) := ⟨_, rfl⟩
        obtain ⟨gb, hgb⟩ : ∃ g, g = wr.heap.size := ⟨_, rfl⟩
        have HBA : Hid (Below wr.heap.size wr WA) := by show Below _ _ _; rw [hWA]; exact belowB _ _
        have HCB : Hid (WA.cell? ⟨gb, 0, none⟩ = some (.int .i64 (k : Int))) := by show _ = _; rw [hWA, hgb, World.cell?_alloc_at _ _ _ _ rfl]; rfl
        have HWA : Hid (WA = wr.alloc (.cells #[.int .i64 (k : Int)] 3)) := hWA
        have HGB : Hid (gb = wr.heap.size) := hgb
        have HBW : Hid (Below z.heap.size z WA) := bstepB HBZ.out HBA.out
        clear hWA hgb HU HT
        go_wp2_with (at_builtin; rw [← HWA.out, ← HGB.out]; refine wpList_pushV (enc := Value.int .i64) _ rfl _ _ 23 rfl z.heap.size 3 i0 (.int .i64 0) 8 Tryz.underlying23 hi hz0 hz1 hz2 rfl _ K rfl (HO.out.below HBA.out) gb (k : Int) rfl HCB.out rfl (by have := HKL.out; unfold maxLen; omega) (by have := HKL.out; omega) HBW.out.size ?_)
        intro ng tm ncap W2 ho hg3 hng _
        have HO2 : Hid (OG (Value.int .i64) z.heap.size 3 W2 (.slice (some ⟨ng, 0, none⟩) tm ncap) (K ++ [(k : Int)])) := ho
        have HB2 : Hid (Below z.heap.size z W2) := (HO.out.below HBA.out).grown HBW.out HBW.out.size hg3
        clear ho hg3 hng HO HBZ HBA HCB HWA HGB HBW HKL
        go_wp2
        go_roundg (pn - (k + 1))
        case measure => omega
        case rel => exact ⟨k + 1, _, _, _, _, by first | rfl | go_num, rfl, by omega, Nat.le_refl _, HU2, HO2, HB2⟩
    · have hltz : ¬ (k : Int) < (pn : Int) := by omega
      have hke : k = pn := by omega
      have HE : Hid (PrE w.heap.size P pn a G (BaP P pn a G) wr (.returned (.tuple #[.slice ko kn kc, .int .i64 0]))) := by
        rw [hke] at HU
        exact ⟨ko, kn, kc, K, by rw [H0.out], HO.out.mono HB.out.size, fun h => absurd H0.out h, fun _ => ⟨HU.out.rise, fun x => (HU.out.mem x).trans ⟨fun ⟨k, e, hk, h⟩ => ⟨k, e, hk, by rw [e]; exact h⟩, fun ⟨k, e, hk, h⟩ => ⟨k, e, hk, by rw [← e]; exact h⟩⟩⟩⟩
      have HBE : Hid (Below w.heap.size w wr) := bstepB HB.out HBZ.out
      clear hke HU HO HBZ
      go_wp2
      go_ret2
      exact ⟨HE.out, HBE.out⟩
end Go.Proofs.YthdpomgpcblpeaaGreat

namespace Go.Proofs.YthdpomgpcblpeaaGreat
set_option linter.unusedVariables false
open Go.RowKit Go.Shelf Go.Sort Go.Lib
theorem opn_yes {a G : List Int} {i : Nat} {x : Int} (h : a[i]? = some x) (hx : x ∉ G) : opn (a.take (i + 1)) G = opn (a.take i) G ++ [x] := by
  unfold opn
  rw [List.take_add_one, h, List.filter_append]
  simp [hx]
theorem opn_no {a G : List Int} {i : Nat} {x : Int} (h : a[i]? = some x) (hx : x ∈ G) : opn (a.take (i + 1)) G = opn (a.take i) G := by
  unfold opn
  rw [List.take_add_one, h, List.filter_append]
  simp [hx]
theorem below_grown0 {w w' : World} {v : Value} (hg : w.grownBy w' v.ownBlock) (hv : v.ownBlock = none) : Below w.heap.size w w' := ⟨hg.os, hg.tape, hg.output, hg.size, fun q hq => hg.block q hq (by rw [hv]; simp)⟩
end Go.Proofs.YthdpomgpcblpeaaGreat

namespace Go.Proofs.YthdpomgpcblpeaaGreat
set_option linter.unusedVariables false
open Go.RowKit Go.Shelf Go.Sort Go.Lib
set_option maxRecDepth 1000000 in
set_option maxHeartbeats 12800000 in
theorem needed17 (pv av qv : Value) (pvs : List Value) (P : List (List Int)) (a G : List Int) (w : World) (h : RRD w pv pvs P) (n : Nat) (hn : P.length = n) (hb : n ≤ 14) (hbl : ∀ i, (P.getD i []).length ≤ 90) (v : Nat) (hv : v < n) (ha : RG (Value.int .i64) w av a) (hal : a.length ≤ 100) (hq : RG (Value.int .i64) w qv G) (hql : G.length ≤ 100)
    (hck : ckE P = 0) (hna : noPts (n : Int) a = false) (hng : noPts (n : Int) G = false) :
    Calls Tryz.prog 20 #[pv, .int .i64 (v : Int), av, qv] w fun e w' => ∃ u, e = .returned u ∧ TlV (TabM P a G (v : Int)) u ∧ Below w.heap.size w w' := by
  obtain ⟨i0, hi, hz0, hz1, hz2⟩ := info_parts Tryz.infoI
  obtain ⟨i1, hi1, ha0, ha1, ha2⟩ := info_parts Tryz.infoRD
  obtain ⟨po, pn, pc, rfl⟩ : ∃ o n c, pv = .slice o n c := by obtain ⟨ao, cap, e⟩ := h.out.sl; exact ⟨_, _, _, e⟩
  obtain rfl : pn = n := by rw [← hn, ← h.len, h.out.len]
  obtain ⟨ao, an, ac, rfl⟩ : ∃ o n c, av = .slice o n c := by obtain ⟨ao, cap, e⟩ := ha.sl; exact ⟨_, _, _, e⟩
  obtain ⟨qo, qn, qc, rfl⟩ : ∃ o n c, qv = .slice o n c := by obtain ⟨ao, cap, e⟩ := hq.sl; exact ⟨_, _, _, e⟩
  have HR : Hid (∀ W, Below w.heap.size w W → RRD W (.slice po pn pc) pvs P) := fun W hW => h.below (Nat.le_refl _) hW
  have HA : Hid (∀ W, Below w.heap.size w W → RG (Value.int .i64) W (.slice ao an ac) a) := fun W hW => ha.below (Nat.le_refl _) hW
  have HQ : Hid (∀ W, Below w.heap.size w W → RG (Value.int .i64) W (.slice qo qn qc) G) := fun W hW => hq.below (Nat.le_refl _) hW
  have HN : Hid (P.length = pn) := hn
  have HAN : Hid (a.length = an) := ha.len
  have HQN : Hid (G.length = qn) := hq.len
  have hanm : an ≤ 100 := by rw [← ha.len]; exact hal
  have HAM : Hid (an ≤ 100) := hanm
  have HQM : Hid (G.length ≤ 100) := hql
  have HP14 : Hid (pn ≤ 14) := hb
  have HBL : Hid (∀ i, (P.getD i []).length ≤ 90) := hbl
  have HCK : Hid (ckE P = 0) := hck
  have HNA : Hid (noPts (P.length : Int) a = false) := by show _ = _; rw [hn]; exact hna
  have HNG : Hid (noPts (P.length : Int) G = false) := by show _ = _; rw [hn]; exact hng
  have HB0 : Hid (Below w.heap.size w w) := Below.refl _ _
  clear h hn ha hal hq hql hbl hck hna hng hb
  go_enter Tryz.func20, Tryz.ntmps20
  go_wp2
  go_loopg [9, 10] an (fun g1 v9 v10 wr => ∃ (i : Nat) (lo : Option Addr) (ln lc : Nat), v9 = .slice lo ln lc ∧ v10 = .int .i64 i ∧ i ≤ an ∧ an - i ≤ g1 ∧ Hid (OG (Value.int .i64) w.heap.size 3 wr (.slice lo ln lc) (opn (a.take i) G)) ∧ Hid (Below w.heap.size w wr))
  case atStart => exact ⟨0, none, 0, 0, rfl, rfl, Nat.zero_le _, by omega, OG.nil _ _ _, HB0⟩
  case round =>
    clear HB0
    obtain ⟨i, lo, ln, lc, rfl, rfl, hin, hg1, HO, HB⟩ := hrel
    by_cases hlt : i < an
    · have hltz : (i : Int) < (an : Int) := by omega
      obtain ⟨x, gx, ox, hx1, rfl, hx2⟩ := (HA.out wr HB.out).at hlt
      change wr.cell? ⟨gx, ox + i, none⟩ = some (.int .i64 x) at hx2
      have HX1 : Hid (a[i]? = some x) := hx1
      have CH : Hid _ := hasD (.slice qo qn qc) G x wr (HQ.out wr HB.out)
      obtain ⟨b, hb⟩ : ∃ b, b = decide (x ∈ G) := ⟨_, rfl⟩
      rw [← hb] at CH
      have HBB : Hid (b = decide (x ∈ G)) := hb
      clear hx1 hb
      go_wp2_with fail
      refine Calls.mono CH.out ?_
      rintro e y ⟨rfl, hy⟩
      rw [hy]
      clear CH hy y
      cases b with
      | true =>
        have HO2 : Hid (OG (Value.int .i64) w.heap.size 3 wr (.slice lo ln lc) (opn (a.take (i + 1)) G)) := by show OG _ _ _ _ _ _; rw [opn_no HX1.out (of_decide_eq_true HBB.out.symm)]; exact HO.out
        clear HO HBB HX1
        go_wp2
        clear hx2
        go_roundg (an - (i + 1))
        case measure => omega
        case rel => exact ⟨i + 1, _, _, _, rfl, by first | rfl | go_num, by omega, Nat.le_refl _, HO2, HB⟩
      | false =>
        have HE : Hid (opn (a.take (i + 1)) G = opn (a.take i) G ++ [x]) := opn_yes HX1.out (of_decide_eq_false HBB.out.symm)
        have HLN : Hid ((opn (a.take i) G).length ≤ 100) := by show _ ≤ _; have h1 := opn_len (a.take i) G; rw [List.length_take] at h1; have := HAM.out; omega
        obtain ⟨WA, hWA⟩ : ∃ W, W = wr.alloc (.cells #[.int .i64 x] 3) := ⟨_, rfl⟩
        obtain ⟨gb, hgb⟩ : ∃ g, g = wr.heap.size := ⟨_, rfl⟩
        have HBA : Hid (Below wr.heap.size wr WA) := by show Below _ _ _; rw [hWA]; exact belowB _ _
        have HCB : Hid (WA.cell? ⟨gb, 0, none⟩ = some (.int .i64 x)) := by show _ = _; rw [hWA, hgb, World.cell?_alloc_at _ _ _ _ rfl]; rfl
        have HWA : Hid (WA = wr.alloc (.cells #[.int .i64 x] 3)) := hWA
        have HGB : Hid (gb = wr.heap.size) := hgb
        have HBW : Hid (Below w.heap.size w WA) := bstepB HB.out HBA.out
        clear hWA hgb HBB HX1
        go_wp2_with (at_builtin; rw [← HWA.out, ← HGB.out]; refine wpList_pushV (enc := Value.int .i64) _ rfl _ _ 23 rfl w.heap.size 3 i0 (.int .i64 0) 8 Tryz.underlying23 hi hz0 hz1 hz2 rfl _ (opn (a.take i) G) rfl (HO.out.below HBA.out) gb x rfl HCB.out rfl (by have := HLN.out; unfold maxLen; omega) (by have := HLN.out; omega) HBW.out.size ?_)
        intro ng tm ncap W2 ho hg3 hng _
        have HO2 : Hid (OG (Value.int .i64) w.heap.size 3 W2 (.slice (some ⟨ng, 0, none⟩) tm ncap) (opn (a.take (i + 1)) G)) := by show OG _ _ _ _ _ _; rw [HE.out]; exact ho
        have HB2 : Hid (Below w.heap.size w W2) := (HO.out.below HBA.out).grown HBW.out HBW.out.size hg3
        clear ho hg3 hng HO HB HBA HCB HWA HGB HBW HLN HE hx2
        go_wp2
        go_roundg (an - (i + 1))
        case measure => omega
        case rel => exact ⟨i + 1, _, _, _, rfl, by first | rfl | go_num, by omega, Nat.le_refl _, HO2, HB2⟩
    · have hltz : ¬ (i : Int) < (an : Int) := by omega
      obtain ⟨wv, rfl⟩ : ∃ W, W = wr := ⟨_, rfl⟩
      have hop : opn (a.take i) G = opn a G := by rw [List.take_of_length_le (by rw [HAN.out]; omega)]
      rw [hop] at HO
      have HOP : Hid (∀ W, Below wv.heap.size wv W → RG (Value.int .i64) W (.slice lo ln lc) (opn a G)) := fun W hW => HO.out.rg.below (Nat.le_refl _) hW
      have HBV : Hid (Below w.heap.size w wv) := HB.out
      have HOW0 : Hid (OwR wv.heap.size wv (.slice none 0 0) [] (wdK P v 0)) := OwR.nil _ _
      have HBZ0 : Hid (Below wv.heap.size wv wv) := Below.refl _ _
      have hp14 : pn ≤ 14 := HP14.out
      clear hop HO HB HA hltz hin hg1 hanm
      go_wp2
      go_loopg [11, 12, 13] pn (fun g2 v11 v12 _v13 wz => ∃ (i : Nat) (uo : Option Addr) (un uc : Nat) (vs : List Value), v11 = .slice uo un uc ∧ v12 = .int .i64 i ∧ i ≤ pn ∧ pn - i ≤ g2 ∧ Hid (OwR wv.heap.size wz (.slice uo un uc) vs (wdK P v i)) ∧ Hid (Below wv.heap.size wv wz))
      case atStart => exact ⟨0, none, 0, 0, [], rfl, rfl, Nat.zero_le _, by omega, HOW0, HBZ0⟩
      case round =>
        clear HOW0 HBZ0
        obtain ⟨i, uo, un, uc, vs, rfl, rfl, hipn, hg2, HOW, HBZ⟩ := hrel
        by_cases hlti : i < pn
        · have hltiz : (i : Int) < (pn : Int) := by omega
          have hR := HR.out wr (bstepB HBV.out HBZ.out)
          obtain ⟨x, gp, op, hx1, rfl, hx2⟩ := hR.out.at hlti
          have hxr := hR.inn i x hx1
          obtain ⟨xo, xn, xc, rfl⟩ : ∃ o n c, x = .slice o n c := by obtain ⟨ao, cap, e⟩ := hxr.sl; exact ⟨_, _, _, e⟩
          change wr.cell? ⟨gp, op + i, none⟩ = some (.slice xo xn xc) at hx2
          have HXR : Hid (RG (Value.int .i64) wr (.slice xo xn xc) (P.getD i [])) := hxr
          have HXL : Hid ((P.getD i []).length ≤ 100000) := by show _ ≤ _; have := HBL.out i; omega
          clear hR hx1 hxr
          go_wp2_with (at_builtin; refine wpList_appG _ (fun _ => rfl) rfl _ _ 23 rfl wr.heap.size 3 i0 (.int .i64 0) 8 Tryz.underlying23 hi hz0 hz1 hz2 rfl _ _ [] (P.getD i []) rfl (OG.nil _ _ _) rfl HXR.out (by have := HXL.out; unfold maxLen; simp only [List.length_nil]; omega) (by have := HXL.out; simp only [List.length_nil]; omega) (Nat.le_refl _) ?_)
          intro v0 y0 ho0 hg0
          obtain ⟨o0, n0, c0, rfl⟩ : ∃ o n c, v0 = .slice o n c := by obtain ⟨ao, cap, e, -⟩ := ho0.sl; exact ⟨_, _, _, e⟩
          have HO0 : Hid (OG (Value.int .i64) wr.heap.size 3 y0 (.slice o0 n0 c0) (P.getD i [])) := by show OG _ _ _ _ _ _; rw [List.getD_eq_getElem?_getD]; exact ho0
          have HB0 : Hid (Below wr.heap.size wr y0) := below_grown0 hg0 rfl
          clear ho0 hg0 hx2 HXR
          by_cases hiv : i = v
          case' pos =>
            have hivz : ((i : Int) == (v : Int)) = true := beq_iff_eq.2 (by omega)
            have HWR : Hid (wdR P v i = P.getD i [] ++ [(pn : Int)]) := by show _ = _; unfold wdR; rw [if_pos hiv, HN.out]
            obtain ⟨WA, hWA⟩ : ∃ W, W = y0.alloc (.cells #[.int .i64 (pn : Int)] 3) := ⟨_, rfl⟩
            obtain ⟨gb, hgb⟩ : ∃ g, g = y0.heap.size := ⟨_, rfl⟩
            have HBA : Hid (Below y0.heap.size y0 WA) := by show Below _ _ _; rw [hWA]; exact belowB _ _
            have HCB : Hid (WA.cell? ⟨gb, 0, none⟩ = some (.int .i64 (pn : Int))) := by show _ = _; rw [hWA, hgb, World.cell?_alloc_at _ _ _ _ rfl]; rfl
            have HWA : Hid (WA = y0.alloc (.cells #[.int .i64 (pn : Int)] 3)) := hWA
            have HGB : Hid (gb = y0.heap.size) := hgb
            have HBW : Hid (Below wr.heap.size wr WA) := bstepB HB0.out HBA.out
            clear hWA hgb hiv
            go_wp2_with (at_builtin; rw [← HWA.out, ← HGB.out]; refine wpList_pushV (enc := Value.int .i64) _ rfl _ _ 23 rfl wr.heap.size 3 i0 (.int .i64 0) 8 Tryz.underlying23 hi hz0 hz1 hz2 rfl _ (P.getD i []) rfl (HO0.out.below HBA.out) gb (pn : Int) rfl HCB.out rfl (by have := HXL.out; unfold maxLen; omega) (by have := HXL.out; omega) HBW.out.size ?_)
            intro ng tm ncap WX ho hg3 hng _
            have HX : Hid (OG (Value.int .i64) wr.heap.size 3 WX (.slice (some ⟨ng, 0, none⟩) tm ncap) (wdR P v i)) := by show OG _ _ _ _ _ _; rw [HWR.out]; exact ho
            have HBX : Hid (Below wr.heap.size wr WX) := (HO0.out.below HBA.out).grown HBW.out HBW.out.size hg3
            obtain ⟨zo, hzo⟩ : ∃ z, z = (some ⟨ng, 0, none⟩ : Option Addr) := ⟨_, rfl⟩
            rw [← hzo] at HX ⊢
            obtain ⟨zn, rfl⟩ : ∃ z, z = tm := ⟨_, rfl⟩
            obtain ⟨zc, rfl⟩ : ∃ z, z = ncap := ⟨_, rfl⟩
            clear ho hg3 hng HBA HCB HWA HGB HBW HWR HO0 HB0 hivz hzo
          case' neg =>
            have hivz : ((i : Int) == (v : Int)) = false := beq_eq_false_iff_ne.2 (by omega)
            obtain ⟨WX, rfl⟩ : ∃ W, W = y0 := ⟨_, rfl⟩
            have HX : Hid (OG (Value.int .i64) wr.heap.size 3 WX (.slice o0 n0 c0) (wdR P v i)) := by show OG _ _ _ _ _ _; unfold wdR; rw [if_neg hiv, List.append_nil]; exact HO0.out
            have HBX : Hid (Below wr.heap.size wr WX) := HB0.out
            obtain ⟨zo, rfl⟩ : ∃ z, z = o0 := ⟨_, rfl⟩
            obtain ⟨zn, rfl⟩ : ∃ z, z = n0 := ⟨_, rfl⟩
            obtain ⟨zc, rfl⟩ : ∃ z, z = c0 := ⟨_, rfl⟩
            clear HO0 HB0 hiv
          all_goals
            obtain ⟨WB, hWB⟩ : ∃ W, W = WX.alloc (.cells #[.slice zo zn zc] 23) := ⟨_, rfl⟩
            obtain ⟨gc, hgc⟩ : ∃ g, g = WX.heap.size := ⟨_, rfl⟩
            have hbb : Below WX.heap.size WX WB := by rw [hWB]; exact belowB _ _
            have HCC : Hid (WB.cell? ⟨gc, 0, none⟩ = some (id (.slice zo zn zc))) := by show _ = _; rw [hWB, hgc, World.cell?_alloc_at _ _ _ _ rfl]; rfl
            have HXB : Hid (OG (Value.int .i64) wv.heap.size 3 WB (.slice zo zn zc) (wdR P v i)) := (HX.out.mono HBZ.out.size).below hbb
            have HOB : Hid (OwR wv.heap.size WB (.slice uo un uc) vs (wdK P v i)) := (HOW.out.below HBX.out).below hbb
            have HBB : Hid (Below wv.heap.size wv WB) := bstepB (bstepB HBZ.out HBX.out) hbb
            have HWB : Hid (WB = WX.alloc (.cells #[.slice zo zn zc] 23)) := hWB
            have HGC : Hid (gc = WX.heap.size) := hgc
            have HVL : Hid (vs.length ≤ 14) := by show _ ≤ _; rw [HOW.out.len, wdK_len]; have := HP14.out; omega
            clear hWB hgc hbb HX HBX HOW HBZ
            go_wp2_with (at_builtin; rw [← HWB.out, ← HGC.out]; refine wpList_pushV (enc := id) _ rfl _ _ 22 rfl wv.heap.size 23 i1 (.slice none 0 0) 24 Tryz.underlying22 hi1 ha0 ha1 ha2 rfl _ vs rfl HOB.out.row gc (.slice zo zn zc) rfl HCC.out rfl (by have := HVL.out; unfold maxLen; omega) (by have := HVL.out; omega) HBB.out.size ?_)
            intro ng2 tm2 ncap2 W3 ho hg3 hng _
            have HO3 : Hid (OwR wv.heap.size W3 (.slice (some ⟨ng2, 0, none⟩) tm2 ncap2) (vs ++ [.slice zo zn zc]) (wdK P v (i + 1))) := by show OwR _ _ _ _ _; rw [wdK_step]; exact HOB.out.push ho hg3 HXB.out
            have HB4 : Hid (Below wv.heap.size wv W3) := HOB.out.row.grown HBB.out HBB.out.size hg3
            clear ho hg3 hng HOB HXB HCC HWB HGC HBB HVL
            go_wp2
            go_roundg (pn - (i + 1))
            case measure => omega
            case rel => exact ⟨i + 1, _, _, _, _, rfl, by first | rfl | go_num, by omega, Nat.le_refl _, HO3, HB4⟩
        · have hltiz : ¬ (i : Int) < (pn : Int) := by omega
          obtain rfl : i = pn := by omega
          have HVL : Hid (vs.length = i) := by show _ = _; rw [HOW.out.len, wdK_len]
          obtain ⟨WB, hWB⟩ : ∃ W, W = wr.alloc (.cells #[.slice none 0 0] 23) := ⟨_, rfl⟩
          obtain ⟨gc, hgc⟩ : ∃ g, g = wr.heap.size := ⟨_, rfl⟩
          have hbb : Below wr.heap.size wr WB := by rw [hWB]; exact belowB _ _
          have HCC : Hid (WB.cell? ⟨gc, 0, none⟩ = some (id (.slice none 0 0))) := by show _ = _; rw [hWB, hgc, World.cell?_alloc_at _ _ _ _ rfl]; rfl
          have HXB : Hid (OG (Value.int .i64) wv.heap.size 3 WB (.slice none 0 0) []) := OG.nil _ _ _
          have HOB : Hid (OwR wv.heap.size WB (.slice uo un uc) vs (wdK P v i)) := HOW.out.below hbb
          have HBB : Hid (Below wv.heap.size wv WB) := bstepB HBZ.out hbb
          have HWB : Hid (WB = wr.alloc (.cells #[.slice none 0 0] 23)) := hWB
          have HGC : Hid (gc = wr.heap.size) := hgc
          clear hWB hgc hbb HOW HBZ hltiz
          go_wp2_with (at_builtin; rw [← HWB.out, ← HGC.out]; refine wpList_pushV (enc := id) _ rfl _ _ 22 rfl wv.heap.size 23 i1 (.slice none 0 0) 24 Tryz.underlying22 hi1 ha0 ha1 ha2 rfl _ vs rfl HOB.out.row gc (.slice none 0 0) rfl HCC.out rfl (by have := HVL.out; have := HP14.out; unfold maxLen; omega) (by have := HVL.out; have := HP14.out; omega) HBB.out.size ?_)
          intro ng2 tm2 ncap2 W3 ho hg3 hng _
          have hO3 : OwR wv.heap.size W3 (.slice (some ⟨ng2, 0, none⟩) tm2 ncap2) (vs ++ [.slice none 0 0]) (wdP P v) := by
            have h6 := HOB.out.push ho hg3 HXB.out
            unfold wdP; rw [HN.out]; exact h6
          have HB4 : Hid (Below wv.heap.size wv W3) := HOB.out.row.grown HBB.out HBB.out.size hg3
          have hE := wd_ext HCK.out (v := v) (by rw [HN.out]; exact hv)
          have hbw := bstepB HBV.out HB4.out
          have hwl : (wdP P v).length = i + 1 := by rw [wd_len, HN.out]
          have CP : Hid _ := tells17 (.slice (some ⟨ng2, 0, none⟩) tm2 ncap2) (.slice lo ln lc) (.slice qo qn qc) _ (wdP P v) (opn a G) G W3 hO3.rrd (i + 1) hwl (by have := HP14.out; omega) (fun j => by
            by_cases hj : j < P.length
            · rw [wd_old hj]; unfold wdR
              have := HBL.out j
              rw [List.length_append]
              have e1 : (if j = v then [(P.length : Int)] else []).length ≤ 1 := by split <;> simp
              omega
            · rw [wd_new (by omega)]; simp) i (by omega) (HOP.out W3 HB4.out) (by have h7 := opn_len a G; rw [HAN.out] at h7; have := HAM.out; omega) (HQ.out W3 hbw) (by have := HQM.out; omega) (hE.ck HCK.out) (noPts_wide (opn_pts HNA.out) (by rw [HN.out]; omega)) (noPts_wide HNG.out (by rw [HN.out]; omega)) (fun hg => by
            obtain ⟨p, e, hp⟩ := noPts_pt HNG.out _ hg
            rw [HN.out] at hp; omega)
          have HTW : Hid ((∃ y ∈ opn a G, TelM (wdP P v) G (i : Int) y) ↔ TabM P a G (v : Int)) := by
            have h8 := tab_wid HCK.out HNA.out HNG.out (v := v) (by rw [HN.out]; exact hv)
            rw [HN.out] at h8
            exact h8
          have HBX : Hid (Below w.heap.size w W3) := hbw
          clear ho hg3 hng HOB HXB HCC HWB HGC HBB HVL hO3 hE hbw hwl
          go_wp2_with fail
          refine Calls.mono CP.out ?_
          rintro e y6 ⟨u, rfl, ⟨b, rfl, hb⟩, by6⟩
          have HE : Hid (TlV (TabM P a G (v : Int)) (.bool b)) := ⟨b, rfl, hb.trans HTW.out⟩
          have HBE : Hid (Below w.heap.size w y6) := bstepB HBX.out by6
          clear CP hb by6 HTW HBX
          go_wp2
          go_ret
          exact ⟨_, rfl, HE.out, HBE.out⟩
end Go.Proofs.YthdpomgpcblpeaaGreat
