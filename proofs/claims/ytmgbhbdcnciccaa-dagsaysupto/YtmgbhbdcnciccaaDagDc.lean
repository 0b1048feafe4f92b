/-
  Proved here: the document's Cycle, Order.
-/
import Derived.Test.YtmgbhbdcnciccaaDagWa
import Derived.Test.YtmgbhbdcnciccaaDagV
import Derived.Test.YtmgbhbdcnciccaaDagPkAll
namespace Go.Proofs.Ytmgbhbdcnciccaa
set_option linter.unusedVariables false
open Go.RowKit
theorem wyD_len (P : List (List Int)) (s : Nat) : ∀ (k : Nat) (c : Int), (wyD P s k c).length = k
  | 0, _ => rfl
  | k + 1, c => by unfold wyD; rw [List.length_cons, wyD_len P s k]
theorem wyD_step (P : List (List Int)) (s : Nat) : ∀ (k : Nat) (c : Int) (j : Nat) (x : Int), j < k → (c :: wyD P s k c)[j]? = some x → (c :: wyD P s k c)[j + 1]? = some (lsF (Md P s (k - j)) ((k - j : Nat) : Int) (P.getD x.toNat []))
  | 0, _, _, _, h, _ => by omega
  | k + 1, c, 0, x, _, h => by
    simp at h; subst h
    simp [wyD]
  | k + 1, c, j + 1, x, h, hx => by
    have e1 : (c :: wyD P s (k + 1) c)[j + 1]? = (wyD P s (k + 1) c)[j]? := by simp
    rw [e1] at hx
    unfold wyD at hx
    have := wyD_step P s k _ j x (by omega) hx
    have e2 : (c :: wyD P s (k + 1) c)[j + 1 + 1]? = (wyD P s (k + 1) c)[j + 1]? := by simp
    rw [e2]
    unfold wyD
    rw [this]
    have e3 : k + 1 - (j + 1) = k - j := by omega
    rw [e3]
theorem lsS_md {P : List (List Int)} {s c : Nat} {a : Int} {p : Nat} : lsS (Md P s c) (c : Int) a (p : Int) = if (s : Int) ≤ (p : Int) ∧ wkB P s c p = true ∧ (a < 0 ∨ (p : Int) < a) then (p : Int) else a := by
  unfold lsS Md
  rw [Int.toNat_natCast]
  by_cases h1 : (s : Int) ≤ (p : Int)
  · by_cases h2 : wkB P s c p = true
    · simp [h1, h2]
    · simp [h1, h2]
  · simp [h1]
set_option maxRecDepth 100000 in
set_option maxHeartbeats 3200000 in
theorem refOrderD (pv : Value) (pvs : List Value) (P : List (List Int)) (w : World) (h : RRD w pv pvs P) (n : Nat) (hn : P.length = n) (hb : n ≤ 100000) :
    Calls Try.prog 42 #[pv] w fun e w' => ∃ tv, e = .returned (.tuple #[tv, .int .i64 (ckE P)]) ∧ OG (Value.int .i64) w.heap.size 3 w' tv (ordL P) ∧ Below w.heap.size w w' := by
  have CC : Hid _ := refCheckD pv pvs P w h n hn hb
  obtain ⟨po, pn, pc, rfl⟩ : ∃ o n c, pv = .slice o n c := by obtain ⟨ao, cap, e⟩ := h.out.sl; exact ⟨_, _, _, e⟩
  have HR : Hid (RRD w (.slice po pn pc) pvs P) := h
  have HN : Hid (P.length = n) := hn
  clear h hn
  go_enter Try.func42, Try.ntmps42
  go_wp2_with fail
  refine Calls.mono CC.out ?_
  rintro e y ⟨rfl, hy⟩
  have HB : Hid (Below w.heap.size w y) := hy
  clear CC hy
  obtain ⟨c, hc⟩ : ∃ c, c = ckE P := ⟨_, rfl⟩
  have HC : Hid (ckE P = c) := hc.symm
  rw [← hc]
  clear hc
  by_cases h0 : c = 0
  · subst h0
    have CO : Hid _ := outD _ pvs P y (HR.out.below (Nat.le_refl _) HB.out) n HN.out hb
    go_wp2_with fail
    refine Calls.mono CO.out ?_
    clear CO
    rintro e z ⟨tv, rfl, ho, hz⟩
    have HO : Hid (OG (Value.int .i64) w.heap.size 3 z tv (ordL P)) := by show OG _ _ _ _ _ _; unfold ordL; rw [if_pos HC.out]; exact ho.mono HB.out.size
    have HB2 : Hid (Below w.heap.size w z) := HB.out.trans (hz.mono HB.out.size)
    obtain ⟨vo, vn, vc, rfl⟩ : ∃ o n c, tv = .slice o n c := by obtain ⟨ao, cap, e⟩ := ho.rg.sl; exact ⟨_, _, _, e⟩
    clear ho hz HB
    go_wp2
    go_ret2
    exact ⟨_, by rw [HC.out]; rfl, HO.out, HB2.out⟩
  · have hcz : (c != (0 : Int)) = true := by simpa using h0
    have HO : Hid (ordL P = []) := by show _ = _; unfold ordL; rw [if_neg (by rw [HC.out]; exact h0)]
    clear h0
    go_wp2
    go_ret2
    exact ⟨_, by rw [HC.out]; rfl, by rw [HO.out]; exact OG.nil _ _ _, HB.out⟩
set_option maxRecDepth 100000 in
set_option maxHeartbeats 12800000 in
theorem refCycleD (pv : Value) (pvs : List Value) (P : List (List Int)) (w : World) (h : RRD w pv pvs P) (N : Nat) (hn : P.length = N) (hb : N ≤ 100000) (hbl : ∀ i, (P.getD i []).length ≤ 100000) :
    Calls Try.prog 41 #[pv] w fun e w' => ∃ tv, e = .returned tv ∧ OG (Value.int .i64) w.heap.size 3 w' tv (cyL P) ∧ Below w.heap.size w w' := by
  obtain ⟨i0, hi, hz0, hz1, hz2⟩ := info_parts Try.infoI
  have CC : Hid _ := refCheckD pv pvs P w h N hn hb
  obtain ⟨po, pn, pc, rfl⟩ : ∃ o n c, pv = .slice o n c := by obtain ⟨ao, cap, e⟩ := h.out.sl; exact ⟨_, _, _, e⟩
  obtain rfl : pn = N := by rw [← hn, ← h.len, h.out.len]
  have HR : Hid (∀ W, Below w.heap.size w W → RRD W (.slice po pn pc) pvs P) := fun W hW => h.below (Nat.le_refl _) hW
  have HN : Hid (P.length = pn) := hn
  have HBL : Hid (∀ i, (P.getD i []).length ≤ 100000) := hbl
  clear h hn hbl
  go_enter Try.func41, Try.ntmps41
  go_wp2_with fail
  refine Calls.mono CC.out ?_
  rintro e y ⟨rfl, hy⟩
  have HB : Hid (Below w.heap.size w y) := hy
  clear CC hy
  by_cases h42 : ckE P = 42
  · have HCK : Hid (ckE P = 42) := h42
    have HWF : Hid (WfP P) := outs_no (cl_zero (ck_42 h42)).1
    rw [h42]
    clear h42
    go_wp2
    go_loopg [3, 4, 5, 6, 7, 8, 9] (pn + 1) (fun g1 v3 _v4 _v5 _v6 _v7 _v8 _v9 wr => ∃ n : Nat, v3 = .int .i64 n ∧ 1 ≤ n ∧ n ≤ pn + 1 ∧ pn + 1 - n ≤ g1 ∧ Hid (∀ n', 1 ≤ n' → n' < n → ∀ s', s' < P.length → wkB P s' n' s' = false) ∧ Hid (Below w.heap.size w wr))
    case atStart => exact ⟨1, rfl, by omega, by omega, by omega, (fun n' h1 h2 => by omega), HB⟩
    case round =>
      clear HB
      obtain ⟨n, rfl, hn1, hnn, hg1, HA, HB⟩ := hrel
      by_cases hlt : n ≤ pn
      · have hltz : (n : Int) ≤ (pn : Int) := by omega
        go_wp2
        go_loopg [4, 5, 6, 7, 8, 9] pn (fun g2 v4 _v5 _v6 _v7 _v8 _v9 wq => ∃ s : Nat, v4 = .int .i64 s ∧ s ≤ pn ∧ pn - s ≤ g2 ∧ Hid (∀ s', s' < s → wkB P s' n s' = false) ∧ Hid (Below w.heap.size w wq))
        case atStart => exact ⟨0, rfl, by omega, by omega, (fun s' h1 => by omega), HB⟩
        case round =>
          clear HB
          obtain ⟨s, rfl, hsn, hg2, HS, HB⟩ := hrel
          by_cases hls : s < pn
          · have hlsz : (s : Int) < (pn : Int) := by omega
            have CW : Hid _ := walksD _ pvs P wr (HR.out wr HB.out) pn HN.out hb HWF.out s n hls (by omega)
            go_wp2_with fail
            refine Calls.mono CW.out ?_
            clear CW
            rintro e w2 ⟨gq, rfl, hq1, hq2⟩
            have HB2 : Hid (Below w.heap.size w w2) := HB.out.trans (hq2.mono HB.out.size)
            have hcell := (hq1.cell (rowB_get (f := wkB P s n) hls)).1
            clear hq1 hq2
            rcases hwk : wkB P s n s with _ | _
            · rw [hwk] at hcell
              have HS2 : Hid (∀ s', s' < s + 1 → wkB P s' n s' = false) := fun s' hs' => by
                rcases Nat.lt_or_ge s' s with e | e
                · exact HS.out s' e
                · have : s' = s := by omega
                  subst this; exact hwk
              clear hwk
              go_wp2
              clear hcell
              go_roundg (pn - (s + 1))
              case measure => omega
              case rel => exact ⟨s + 1, by first | rfl | go_num, by omega, Nat.le_refl _, HS2, HB2⟩
            · rw [hwk] at hcell
              have hEq := dc_eq HCK.out hn1 (by rw [HN.out]; exact hls) hwk HA.out HS.out
              obtain ⟨Wy, hWy⟩ : ∃ Wy, Wy = (s : Int) :: wyD P s (n - 1) (s : Int) := ⟨_, rfl⟩
              have HEQ : Hid (Wy = cyL P) := by show _ = _; rw [hWy]; exact hEq
              have HWL : Hid (Wy.length = n) := by show _ = _; rw [hWy, List.length_cons, wyD_len]; omega
              have HAT : Hid (∀ j, j < n → ∃ v : Nat, Wy[j]? = some (v : Int) ∧ v < pn) := fun j hj => by
                obtain ⟨x, hx⟩ : ∃ x, Wy[j]? = some x := ⟨_, List.getElem?_eq_getElem (by rw [HWL.out]; exact hj)⟩
                obtain ⟨v, e1, e2⟩ := (cyL_ok HCK.out).pt j x (by rw [← HEQ.out]; exact hx)
                rw [HN.out] at e2
                exact ⟨v, by rw [hx, e1], e2⟩
              have HSP : Hid (∀ (j : Nat) (v : Nat), j + 1 < n → Wy[j]? = some (v : Int) → Wy[j + 1]? = some (lsF (Md P s (n - 1 - j)) ((n - 1 - j : Nat) : Int) (P.getD v []))) := fun j v hj hv => by
                have := wyD_step P s (n - 1) (s : Int) j (v : Int) (by omega) (by rw [← hWy]; exact hv)
                rw [Int.toNat_natCast, ← hWy] at this
                exact this
              obtain ⟨W3, hW3⟩ : ∃ W, W = w2.alloc (.cells #[.int .i64 (s : Int)] 3) := ⟨_, rfl⟩
              obtain ⟨g3', hg3⟩ : ∃ g, g = w2.heap.size := ⟨_, rfl⟩
              have HO3 : Hid (OG (Value.int .i64) w.heap.size 3 W3 (.slice (some ⟨g3', 0, none⟩) 1 1) (Wy.take (0 + 1))) := by
                show OG _ _ _ _ _ _
                have e1 : Wy.take (0 + 1) = [(s : Int)] := by rw [hWy]; rfl
                rw [e1, hW3, hg3]
                exact (OG.lit (enc := Value.int .i64) 3 w2 [(s : Int)] (by simp [maxLen])).mono HB2.out.size
              have HB3 : Hid (Below w.heap.size w W3) := by show Below _ _ _; rw [hW3]; exact HB2.out.alloc HB2.out.size _
              have HW3 : Hid (W3 = w2.alloc (.cells #[.int .i64 (s : Int)] 3)) := hW3
              have HG3 : Hid (g3' = w2.heap.size) := hg3
              clear hwk hEq hWy hW3 hg3 HA HS HB HB2
              go_wp2
              clear hcell
              rw [← HW3.out, ← HG3.out]
              clear HW3 HG3
              go_loopg [5, 6, 7, 8, 9] n (fun g3 v5 _v6 _v7 _v8 _v9 wq => ∃ (j wo wc : Nat), v5 = .slice (some ⟨wo, 0, none⟩) (j + 1) wc ∧ j + 1 ≤ n ∧ n - j ≤ g3 ∧ Hid (OG (Value.int .i64) w.heap.size 3 wq (.slice (some ⟨wo, 0, none⟩) (j + 1) wc) (Wy.take (j + 1))) ∧ Hid (Below w.heap.size w wq))
              case atStart => exact ⟨0, g3', 1, rfl, by omega, by omega, HO3, HB3⟩
              case round =>
                clear HO3 HB3
                obtain ⟨j, wo, wc, rfl, hjn, hg4, HO, HB⟩ := hrel
                by_cases hlj : j + 1 < n
                · have hljz : ((j : Nat) : Int) + 1 < (n : Int) := by omega
                  obtain ⟨m, hm⟩ : ∃ m, m = n - 1 - j := ⟨_, rfl⟩
                  have hmz : (n : Int) - ((j : Int) + 1) = ((m : Nat) : Int) := by omega
                  have hmw : IntKind.i64.wrap ((n : Int) - ((j : Int) + 1)) = ((m : Nat) : Int) := by rw [IntKind.wrap_i64]; omega
                  obtain ⟨c, hc1, hc2⟩ := HAT.out j (by omega)
                  have hnx := HSP.out j c hlj hc1
                  rw [← hm] at hnx
                  have CW : Hid _ := walksD _ pvs P wr (HR.out wr HB.out) pn HN.out hb HWF.out s m hls (by omega)
                  have HST2 : Hid (Wy.take (j + 1 + 1) = Wy.take (j + 1) ++ [lsF (Md P s m) (m : Int) (P.getD c [])]) := by show _ = _; rw [List.take_add_one, hnx]; rfl
                  have HLN : Hid ((Wy.take (j + 1)).length = j + 1) := by show _ = _; rw [List.length_take, HWL.out]; omega
                  have hct : (Wy.take (j + 1))[j]? = some (c : Int) := by rw [List.getElem?_take_of_lt (by omega)]; exact hc1
                  have HCT : Hid ((Wy.take (j + 1))[j]? = some (c : Int)) := hct
                  have HM : Hid (n - 1 - j = m) := hm.symm
                  clear hnx hct hc1 hm
                  go_wp2_with fail
                  first | rw [hmw] | rw [hmz] | skip
                  refine Calls.mono CW.out ?_
                  clear CW
                  rintro e w4 ⟨gq, rfl, hq1, hq2⟩
                  have HB4 : Hid (Below w.heap.size w w4) := HB.out.trans (hq2.mono HB.out.size)
                  have HQ : Hid (OG Value.bool wr.heap.size 4 w4 (.slice (some ⟨gq, 0, none⟩) pn pn) (rowB pn (wkB P s m))) := hq1
                  have HO4 : Hid (OG (Value.int .i64) w.heap.size 3 w4 (.slice (some ⟨wo, 0, none⟩) (j + 1) wc) (Wy.take (j + 1))) := HO.out.below hq2
                  obtain ⟨x, gp, op, hx1, rfl, hx2⟩ := (HR.out w4 HB4.out).out.at hc2
                  have hxr := (HR.out w4 HB4.out).inn c x hx1
                  obtain ⟨xo, xn, xc, rfl⟩ : ∃ o n c, x = .slice o n c := by obtain ⟨ao, cap, e⟩ := hxr.sl; exact ⟨_, _, _, e⟩
                  change w4.cell? ⟨gp, op + c, none⟩ = some (.slice xo xn xc) at hx2
                  have HXR : Hid (RG (Value.int .i64) w4 (.slice xo xn xc) (P.getD c [])) := hxr
                  have HXN : Hid ((P.getD c []).length = xn) := hxr.len
                  have hxm : xn ≤ 100000 := by rw [← hxr.len]; exact HBL.out c
                  have hcw := (HO4.out.cell HCT.out).1
                  have hcp : (c : Int) < (pn : Int) := by omega
                  have hjj : ¬ ((j : Nat) : Int) + 1 ≤ ((j : Nat) : Int) := by omega
                  have hjw : IntKind.i64.wrap ((j : Nat) : Int) = ((j : Nat) : Int) := by rw [IntKind.wrap_i64]; omega
                  clear hq1 hq2 hx1 hxr HO HB
                  go_wp2
                  clear hcw hx2
                  go_loopg [7, 9] xn (fun g5 v7 v9 wq => ∃ k : Nat, v9 = .int .i64 k ∧ k ≤ xn ∧ xn - k ≤ g5 ∧ v7 = .int .i64 (lsF (Md P s m) (m : Int) ((P.getD c []).take k)) ∧ wq = w4)
                  case atStart => exact ⟨0, rfl, by omega, by omega, rfl, rfl⟩
                  case round =>
                    obtain ⟨k, rfl, hkn, hg6, rfl, rfl⟩ := hrel
                    by_cases hlk : k < xn
                    · have hlkz : (k : Int) < (xn : Int) := by omega
                      obtain ⟨y, gx, ox, hy1, rfl, hy2⟩ := HXR.out.at hlk
                      obtain ⟨p, rfl, hp⟩ := HWF.out c y (List.mem_of_getElem? hy1)
                      rw [HN.out] at hp
                      have hpz : (p : Int) < (pn : Int) := by omega
                      have hqc := (HQ.out.cell (rowB_get (f := wkB P s m) hp)).1
                      obtain ⟨a, ha⟩ : ∃ a, a = lsF (Md P s m) (m : Int) ((P.getD c []).take k) := ⟨_, rfl⟩
                      obtain ⟨b0, hb0⟩ : ∃ b, b = wkB P s m p := ⟨_, rfl⟩
                      have HST2' : Hid (lsF (Md P s m) (m : Int) ((P.getD c []).take (k + 1)) = if (s : Int) ≤ (p : Int) ∧ b0 = true ∧ (a < 0 ∨ (p : Int) < a) then (p : Int) else a) := by
                        show _ = _
                        rw [lsF_step hy1, lsS_md, ← ha, ← hb0]
                      rw [← hb0] at hqc
                      rw [← ha]
                      clear ha hb0 hy1
                      by_cases hps : (s : Int) ≤ (p : Int)
                      · have hps2 : (p : Int) ≥ (s : Int) := hps
                        rcases b0 with _ | _
                        · have HST3 : Hid (lsF (Md P s m) (m : Int) ((P.getD c []).take (k + 1)) = a) := by show _ = _; rw [HST2'.out, if_neg (by simp)]
                          go_wp2
                          go_roundg (xn - (k + 1))
                          case measure => omega
                          case rel => exact ⟨k + 1, by first | rfl | go_num, by omega, Nat.le_refl _, by rw [HST3.out], rfl⟩
                        · by_cases ha0 : a < 0
                          · have HST3 : Hid (lsF (Md P s m) (m : Int) ((P.getD c []).take (k + 1)) = (p : Int)) := by show _ = _; rw [HST2'.out, if_pos ⟨hps, rfl, Or.inl ha0⟩]
                            go_wp2
                            go_roundg (xn - (k + 1))
                            case measure => omega
                            case rel => exact ⟨k + 1, by first | rfl | go_num, by omega, Nat.le_refl _, by rw [HST3.out], rfl⟩
                          · by_cases hpa : (p : Int) < a
                            · have HST3 : Hid (lsF (Md P s m) (m : Int) ((P.getD c []).take (k + 1)) = (p : Int)) := by show _ = _; rw [HST2'.out, if_pos ⟨hps, rfl, Or.inr hpa⟩]
                              go_wp2
                              go_roundg (xn - (k + 1))
                              case measure => omega
                              case rel => exact ⟨k + 1, by first | rfl | go_num, by omega, Nat.le_refl _, by rw [HST3.out], rfl⟩
                            · have HST3 : Hid (lsF (Md P s m) (m : Int) ((P.getD c []).take (k + 1)) = a) := by show _ = _; rw [HST2'.out, if_neg (by omega)]
                              go_wp2
                              go_roundg (xn - (k + 1))
                              case measure => omega
                              case rel => exact ⟨k + 1, by first | rfl | go_num, by omega, Nat.le_refl _, by rw [HST3.out], rfl⟩
                      · have hps2 : ¬ (p : Int) ≥ (s : Int) := hps
                        have HST3 : Hid (lsF (Md P s m) (m : Int) ((P.getD c []).take (k + 1)) = a) := by show _ = _; rw [HST2'.out, if_neg (fun h => hps h.1)]
                        go_wp2
                        go_roundg (xn - (k + 1))
                        case measure => omega
                        case rel => exact ⟨k + 1, by first | rfl | go_num, by omega, Nat.le_refl _, by rw [HST3.out], rfl⟩
                    · have hlkz : ¬ (k : Int) < (xn : Int) := by omega
                      obtain ⟨a, ha⟩ : ∃ a, a = lsF (Md P s m) (m : Int) (P.getD c []) := ⟨_, rfl⟩
                      have hak : lsF (Md P s m) (m : Int) ((P.getD c []).take k) = a := by rw [ha, List.take_of_length_le (by rw [HXN.out]; omega)]
                      rw [hak]
                      have HST3 : Hid (Wy.take (j + 1 + 1) = Wy.take (j + 1) ++ [a]) := by show _ = _; rw [ha]; exact HST2.out
                      clear HST2 ha hak
                      obtain ⟨WA, hWA⟩ : ∃ W, W = wr.alloc (.cells #[.int .i64 a] 3) := ⟨_, rfl⟩
                      obtain ⟨gb, hgb⟩ : ∃ g, g = wr.heap.size := ⟨_, rfl⟩
                      have HBA : Hid (Below wr.heap.size wr WA) := by show Below _ _ _; rw [hWA]; exact belowB _ _
                      have HCB : Hid (WA.cell? ⟨gb, 0, none⟩ = some (.int .i64 a)) := by show _ = _; rw [hWA, hgb, World.cell?_alloc_at _ _ _ _ rfl]; rfl
                      have HWA : Hid (WA = wr.alloc (.cells #[.int .i64 a] 3)) := hWA
                      have HGB : Hid (gb = wr.heap.size) := hgb
                      clear hWA hgb
                      go_wp2_with (at_builtin; rw [← HWA.out, ← HGB.out]; refine wpList_pushD _ (fun _ => rfl) rfl _ _ 24 rfl w.heap.size 3 i0 (.int .i64 0) 8 Try.underlying24 hi hz0 hz1 hz2 rfl _ (Wy.take (j + 1)) rfl (HO4.out.below HBA.out) gb a rfl HCB.out (by rw [HLN.out]; unfold maxLen; omega) (by rw [HLN.out]; omega) (Nat.le_trans HB4.out.size HBA.out.size) ?_)
                      intro ng tm ncap W2 ho hg3 hng _
                      have HB5 : Hid (Below w.heap.size w W2) := by
                        show Below _ _ _
                        have b1 := HB4.out.trans (HBA.out.mono HB4.out.size)
                        exact ⟨hg3.os.trans b1.os, hg3.tape.trans b1.tape, hg3.output.trans b1.output, Nat.le_trans b1.size hg3.size, fun q hq => (hg3.block q (Nat.lt_of_lt_of_le hq b1.size) (fun e => by have := (HO4.out.lt q e.symm).1; omega)).trans (b1.block q hq)⟩
                      have htm : tm = j + 1 + 1 := by have := ho.rg.len; rw [List.length_append, HLN.out] at this; exact this.symm
                      subst htm
                      have HO5 : Hid (OG (Value.int .i64) w.heap.size 3 W2 (.slice (some ⟨ng, 0, none⟩) (j + 1 + 1) ncap) (Wy.take (j + 1 + 1))) := by show OG _ _ _ _ _ _; rw [HST3.out]; exact ho
                      clear ho hg3 hng HO4 HB4 HBA HCB HWA HGB HQ HXR HCT HLN HST3
                      go_wp2
                      go_roundg (n - (j + 1))
                      case measure => omega
                      case rel => exact ⟨j + 1, _, _, by first | rfl | go_num, by omega, Nat.le_refl _, HO5, HB5⟩
                · have hlj2 : n = j + 1 := by omega
                  have hljz : ¬ ((j : Nat) : Int) + 1 < (n : Int) := by omega
                  have HE : Hid (OG (Value.int .i64) w.heap.size 3 wr (.slice (some ⟨wo, 0, none⟩) (j + 1) wc) (cyL P)) := by
                    have := HO.out
                    rw [List.take_of_length_le (by rw [HWL.out]; omega), HEQ.out] at this
                    exact this
                  clear HO hlj2
                  go_wp2
                  go_ret
                  exact ⟨_, rfl, HE.out, HB.out⟩
          · have hlsz : ¬ (s : Int) < (pn : Int) := by omega
            have hsp : s = pn := by omega
            have HA2 : Hid (∀ n', 1 ≤ n' → n' < n + 1 → ∀ s', s' < P.length → wkB P s' n' s' = false) := fun n' h1 h2 s' hs' => by
              rcases Nat.lt_or_ge n' n with e | e
              · exact HA.out n' h1 e s' hs'
              · have : n' = n := by omega
                subst this
                exact HS.out s' (by rw [hsp, ← HN.out]; exact hs')
            clear HA HS hsp
            go_wp2
            go_roundg (pn + 1 - (n + 1))
            case measure => omega
            case rel => exact ⟨n + 1, by first | rfl | go_num, by omega, by omega, Nat.le_refl _, HA2, HB⟩
      · exfalso
        obtain ⟨n', s', a, b, c, d⟩ := dc_some HCK.out
        rw [HN.out] at b
        have := HA.out n' a (by omega) s' c
        rw [d] at this
        exact absurd this (by simp)
  · have h0z : ((ckE P : Int) != 42) = true := by simpa using h42
    have HCY : Hid (cyL P = []) := by show _ = _; unfold cyL; rw [if_neg h42]
    go_wp2
    go_ret
    exact ⟨_, rfl, by rw [HCY.out]; exact OG.nil _ _ _, HB.out⟩
end Go.Proofs.Ytmgbhbdcnciccaa
