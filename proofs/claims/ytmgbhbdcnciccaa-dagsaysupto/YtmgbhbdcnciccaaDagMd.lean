/-
  Proved here: the law's made: what a call answers is its holder's.
-/
import Derived.Test.YtmgbhbdcnciccaaDagMdM
namespace Go.Proofs.Ytmgbhbdcnciccaa
set_option linter.unusedVariables false
open Go.RowKit
set_option maxRecDepth 100000 in
set_option maxHeartbeats 25600000 in
theorem madeD (d : Nat) (hd : d ≤ 4) (pv qv : Value) (pvs : List Value) (P : List (List Int)) (pts : List Int) (w : World) (h : RRD w pv pvs P) (n : Nat) (hn : P.length = n) (hb : n ≤ 100000) (hbl : ∀ i, (P.getD i []).length ≤ 100000) (hq : RG (Value.int .i64) w qv pts) (hql : pts.length ≤ 1048576) :
    Calls Try.prog 10 #[.int .i64 (d : Int), pv, qv] w fun e w' => e = .returned (.bool true) ∧ Below w.heap.size w w' := by
  obtain ⟨i0, hi, hz0, hz1, hz2⟩ := info_parts Try.infoI
  obtain ⟨i1, hi1, ha0, ha1, ha2⟩ := info_parts Try.infoRD
  have CT : Hid _ := toldD d hd pv qv pvs P pts w h n hn hb hbl hq (by omega)
  obtain ⟨po, pn, pc, rfl⟩ : ∃ o n c, pv = .slice o n c := by obtain ⟨ao, cap, e⟩ := h.out.sl; exact ⟨_, _, _, e⟩
  obtain ⟨qo, qn, qc, rfl⟩ : ∃ o n c, qv = .slice o n c := by obtain ⟨ao, cap, e⟩ := hq.sl; exact ⟨_, _, _, e⟩
  obtain rfl : pn = n := by rw [← hn, ← h.len, h.out.len]
  have hqn : pts.length = qn := hq.len
  rw [hqn] at hql
  have HR : Hid (∀ W, Below w.heap.size w W → RRD W (.slice po pn pc) pvs P) := fun W hW => h.below (Nat.le_refl _) hW
  have HQ : Hid (∀ W, Below w.heap.size w W → RG (Value.int .i64) W (.slice qo qn qc) pts) := fun W hW => hq.below (Nat.le_refl _) hW
  have HN : Hid (P.length = pn) := hn
  have HQN : Hid (pts.length = qn) := hqn
  have HBL : Hid (∀ i, (P.getD i []).length ≤ 100000) := hbl
  have HD : Hid (d ≤ 4) := hd
  clear h hn hbl hq hqn hd
  go_enter Try.func10, Try.ntmps10
  go_wp2_with fail
  refine Calls.mono CT.out ?_
  clear CT
  rintro e w1 ⟨⟨wo, wn, wc, c, wvs, L, rfl, ha, ho⟩, hw1⟩
  have HA : Hid (AnS d P pn pts c L) := ha
  have HB1 : Hid (Below w.heap.size w w1) := hw1
  have HWT : Hid (∀ W, Below w1.heap.size w1 W → RRD W (.slice wo wn wc) wvs L) := fun W hW => ho.rrd.below (Nat.le_refl _) hW
  have hsm := anS_small ha HN.out hb
  have HLL : Hid (L.length ≤ 100000) := hsm.1
  have HLI : Hid (∀ i, (L.getD i []).length ≤ 100000) := hsm.2
  have CL : Hid _ := lentSD _ pvs P w1 (HR.out w1 hw1) pn HN.out hb HBL.out
  clear ha ho hw1 hsm
  go_wp2_with fail
  refine Calls.mono CL.out ?_
  clear CL
  rintro e w2 ⟨l, full, rfl, gl, lc, fvs, lvs, m, hE, hw2, hO, hS⟩
  obtain rfl := hE.le
  obtain ⟨fo, fn, fc, rfl⟩ : ∃ o n c, full = .slice o n c := by obtain ⟨ao, cap, e⟩ := hE.full.out.sl; exact ⟨_, _, _, e⟩
  have HB2 : Hid (Below w1.heap.size w1 w2) := hw2
  have HLE : Hid (∀ W, Below w2.heap.size w2 W → LtE W P pn (.slice (some ⟨gl, 0, none⟩) pn lc) (.slice fo fn fc) gl lc fvs lvs m) := fun W hW => hE.below hW
  have HOL : Hid (OwR w1.heap.size w2 (.slice (some ⟨gl, 0, none⟩) pn lc) lvs P) := hO
  have HSL : Hid (SepR lvs) := hS
  have CG : Hid _ := longD _ pts w2 (HQ.out w2 (HB1.out.trans (hw2.mono HB1.out.size))) (by rw [HQN.out]; exact hql)
  rw [HQN.out] at CG
  clear hE hw2 hO hS
  go_wp2_with fail
  refine Calls.mono CG.out ?_
  clear CG
  rintro e w3 ⟨gp, pc2, rfl, hg, hw3⟩
  have hcz : (qn : Int) ≤ (pc2 : Int) := by have := hg.rg.room.1; omega
  have hcz2 : qn ≤ qn + 6 := by omega
  have HB3 : Hid (Below w2.heap.size w2 w3) := hw3
  have HPL : Hid (∀ W, Below w3.heap.size w3 W → RG (Value.int .i64) W (.slice (some ⟨gp, 0, none⟩) (qn + 6) pc2) (pts ++ mrks)) := fun W hW => hg.rg.below (Nat.le_refl _) hW
  have HMI : Hid (RG (Value.int .i64) w3 (.slice (some ⟨gp, 0, none⟩) qn pc2) pts) := by
    have h1 := hg.rg.cut (m := qn) (by omega)
    rw [List.take_left' HQN.out] at h1
    exact h1
  have HGP : Hid (w2.heap.size ≤ gp ∧ gp < w3.heap.size) := hg.lt gp rfl
  have CC1 : Hid _ := callD d HD.out _ _ lvs P pts w3 ((HLE.out w3 hw3).lent) pn HN.out hb HBL.out HMI.out (by rw [HQN.out]; omega)
  clear hg hw3
  go_wp2_with fail
  refine Calls.mono CC1.out ?_
  clear CC1
  rintro e w4 ⟨⟨o1, n1, k1, c1, rv1, L1, rfl, ha1, ho1, hs1⟩, hw4⟩
  obtain ⟨e1, e2⟩ := ha1.uniq HA.out
  subst e1
  subst e2
  have HO1 : Hid (OwR w3.heap.size w4 (.slice o1 n1 k1) rv1 L1) := ho1
  have HS1 : Hid (SepR rv1) := hs1
  have HB4 : Hid (Below w3.heap.size w3 w4) := hw4
  have CC2 : Hid _ := callD d HD.out _ _ lvs P pts w4 ((HLE.out w4 (belowS HB3.out hw4)).lent) pn HN.out hb HBL.out (HMI.out.below (Nat.le_refl _) hw4) (by rw [HQN.out]; omega)
  clear ha1 ho1 hs1 hw4
  go_wp2_with fail
  refine Calls.mono CC2.out ?_
  clear CC2
  rintro e w5 ⟨⟨o2, n2, k2, c2, rv2, L2, rfl, ha2, ho2, hs2⟩, hw5⟩
  obtain ⟨e1, e2⟩ := ha2.uniq HA.out
  subst e1
  subst e2
  have HO2 : Hid (OwR w4.heap.size w5 (.slice o2 n2 k2) rv2 L2) := ho2
  have HB5 : Hid (Below w4.heap.size w4 w5) := hw5
  have CC3 : Hid _ := callD d HD.out _ _ lvs P pts w5 ((HLE.out w5 (belowS HB3.out (belowS HB4.out hw5))).lent) pn HN.out hb HBL.out (HMI.out.below (Nat.le_refl _) (belowS HB4.out hw5)) (by rw [HQN.out]; omega)
  clear ha2 ho2 hs2 hw5
  go_wp2_with fail
  refine Calls.mono CC3.out ?_
  clear CC3
  rintro e w6 ⟨⟨o3, n3, k3, c3, rv3, L3, rfl, ha3, ho3, hs3⟩, hw6⟩
  obtain ⟨e1, e2⟩ := ha3.uniq HA.out
  subst e1
  subst e2
  have HO3 : Hid (OwR w5.heap.size w6 (.slice o3 n3 k3) rv3 L3) := ho3
  have HS3 : Hid (SepR rv3) := hs3
  have HB6 : Hid (Below w5.heap.size w5 w6) := hw6
  have hcc : (c3 != c3) = false := by simp
  have HW6 : Hid (Below w1.heap.size w1 w6) := belowS HB2.out (belowS HB3.out (belowS HB4.out (belowS HB5.out hw6)))
  have SA : Hid _ := sameRD _ _ rv1 wvs L3 w6 (HO1.out.below (belowS HB5.out hw6)).rrd (HWT.out w6 HW6.out) (by have := HLL.out; omega)
  clear ha3 ho3 hs3 hw6
  go_wp2_with fail
  refine Calls.mono SA.out ?_
  clear SA
  rintro e w7 ⟨rfl, hw7⟩
  have SB : Hid _ := sameRD _ _ rv2 wvs L3 w7 (HO2.out.below (belowS HB6.out hw7)).rrd (HWT.out w7 (belowS HW6.out hw7)) (by have := HLL.out; omega)
  have HB7 : Hid (Below w6.heap.size w6 w7) := hw7
  clear hw7
  go_wp2_with fail
  refine Calls.mono SB.out ?_
  clear SB
  rintro e w8 ⟨rfl, hw8⟩
  have HB8 : Hid (Below w6.heap.size w6 w8) := belowS HB7.out hw8
  have SC : Hid _ := sameRD _ _ rv3 wvs L3 w8 (HO3.out.below HB8.out).rrd (HWT.out w8 (belowS HW6.out HB8.out)) (by have := HLL.out; omega)
  clear hw8 HB7
  go_wp2_with fail
  refine Calls.mono SC.out ?_
  clear SC
  rintro e w9 ⟨rfl, hw9⟩
  have HB9 : Hid (Below w6.heap.size w6 w9) := belowS HB8.out hw9
  have C49 : Hid (Below w4.heap.size w4 w9) := belowS HB5.out (belowS HB6.out HB9.out)
  have SP1 : Hid _ := spoiltD _ rv1 L3 (-1000) (by omega) (by omega) w3.heap.size w9 (HO1.out.below C49.out) HS1.out (Nat.le_trans HB4.out.size C49.out.size) HLL.out HLI.out
  clear hw9 HB8
  go_wp2_with fail
  refine Calls.mono SP1.out ?_
  clear SP1
  rintro e w10 ⟨rfl, hw10⟩
  have HF10 : Hid (FrP (InR rv1) w9 w10) := hw10
  have HI1 : Hid (∀ q, InR rv1 q → w3.heap.size ≤ q ∧ q < w4.heap.size) := fun q hq => HO1.out.lo q (Or.inr hq)
  have H210 : Hid (OwR w4.heap.size w10 (.slice o2 n2 k2) rv2 L3) := (HO2.out.below (belowS HB6.out HB9.out)).frame hw10 (fun q hq _ _ hi => by have := HI1.out q hi; omega)
  have H310 : Hid (OwR w5.heap.size w10 (.slice o3 n3 k3) rv3 L3) := (HO3.out.below HB9.out).frame hw10 (fun q hq _ _ hi => by have := HI1.out q hi; have := HB5.out.size; omega)
  have S510 : Hid (w5.heap.size ≤ w10.heap.size) := Nat.le_trans HB6.out.size (Nat.le_trans HB9.out.size hw10.size)
  have SP3 : Hid _ := spoiltD _ rv3 L3 (-9000) (by omega) (by omega) w5.heap.size w10 H310.out HS3.out S510.out HLL.out HLI.out
  clear hw10
  go_wp2_with fail
  refine Calls.mono SP3.out ?_
  clear SP3
  rintro e w11 ⟨rfl, hw11⟩
  have H211 : Hid (OwR w4.heap.size w11 (.slice o2 n2 k2) rv2 L3) := H210.out.frame hw11 (fun q hq _ hv hi => by
    have h1 := HO2.out.lo q hv
    have h2 := HO3.out.lo q (Or.inr hi)
    omega)
  have C311 : Hid (Below w3.heap.size w3 w11) := by
    show Below _ _ _
    have b1 := belowS HB4.out C49.out
    have b2 := HF10.out.below (B := w3.heap.size) b1.size (fun q hq => (HI1.out q hq).1)
    have b3 := hw11.below (B := w3.heap.size) (Nat.le_trans b1.size HF10.out.size) (fun q hq => by have := HO3.out.lo q (Or.inr hq); have := HB4.out.size; have := HB5.out.size; omega)
    exact (b1.trans b2).trans b3
  have C111 : Hid (Below w1.heap.size w1 w11) := belowS HB2.out (belowS HB3.out C311.out)
  have SD : Hid _ := sameRD _ _ rv2 wvs L3 w11 H211.out.rrd (HWT.out w11 C111.out) (by have := HLL.out; omega)
  have B45 : Hid (w3.heap.size ≤ w4.heap.size) := HB4.out.size
  have HT2 : Hid (∀ q, ((Value.slice o2 n2 k2).ownBlock = some q ∨ InR rv2 q) → w4.heap.size ≤ q ∧ q < w5.heap.size) := HO2.out.lo
  clear hw11 HF10 HI1 H210 H310 S510 HO1 HO2 HO3 HS1 HS3 HB4 HB5 HB6 HW6 HB9 C49
  go_wp2_with fail
  refine Calls.mono SD.out ?_
  clear SD
  rintro e w12 ⟨rfl, hw12⟩
  have H212 : Hid (OwR w4.heap.size w12 (.slice o2 n2 k2) rv2 L3) := H211.out.below hw12
  have C312 : Hid (Below w3.heap.size w3 w12) := C311.out.trans (hw12.mono C311.out.size)
  have CW : Hid (∀ W, Below w3.heap.size w3 W → Below w.heap.size w W) := fun W hW => belowS HB1.out (belowS HB2.out (belowS HB3.out hW))
  have KP : Hid _ := keptD _ _ _ pvs P w12 (HR.out w12 (CW.out w12 C312.out)) pn HN.out hb HBL.out gl lc fvs lvs m (HLE.out w12 (belowS HB3.out C312.out))
  clear hw12 C311 H211 C111
  go_wp2_with fail
  refine Calls.mono KP.out ?_
  clear KP
  rintro e w13 ⟨rfl, hw13⟩
  have H213 : Hid (OwR w4.heap.size w13 (.slice o2 n2 k2) rv2 L3) := H212.out.below hw13
  have C313 : Hid (Below w3.heap.size w3 w13) := C312.out.trans (hw13.mono C312.out.size)
  have CG2 : Hid _ := longD _ pts w13 (HQ.out w13 (CW.out w13 C313.out)) (by rw [HQN.out]; exact hql)
  rw [HQN.out] at CG2
  clear hw13 H212 C312
  go_wp2_with fail
  refine Calls.mono CG2.out ?_
  clear CG2
  rintro e w14 ⟨gq, pc3, rfl, hg, hw14⟩
  have H214 : Hid (OwR w4.heap.size w14 (.slice o2 n2 k2) rv2 L3) := H213.out.below hw14
  have C314 : Hid (Below w3.heap.size w3 w14) := C313.out.trans (hw14.mono C313.out.size)
  have SE : Hid _ := sameY _ _ (pts ++ mrks) w14 (HPL.out w14 C314.out) hg.rg
  clear hg hw14 H213 C313
  go_wp2_with fail
  refine Calls.mono SE.out ?_
  clear SE
  rintro e y ⟨rfl, hy⟩
  have H215 : Hid (OwR w4.heap.size y (.slice o2 n2 k2) rv2 L3) := H214.out.below hy
  have C315 : Hid (Below w3.heap.size w3 y) := C314.out.trans (hy.mono C314.out.size)
  clear hy H214 C314 HPL
  have HW1Y : Hid (Below w1.heap.size w1 y) := belowS HB2.out (belowS HB3.out C315.out)
  have HB01 : Hid (w.heap.size ≤ w1.heap.size) := HB1.out.size
  have HB12 : Hid (w1.heap.size ≤ w2.heap.size) := HB2.out.size
  have HB2Y : Hid (w2.heap.size ≤ y.heap.size) := Nat.le_trans HB3.out.size C315.out.size
  have HB24 : Hid (w2.heap.size ≤ w4.heap.size) := Nat.le_trans HB3.out.size B45.out
  have HIL : Hid (∀ q, ((Value.slice (some ⟨gl, 0, none⟩) pn lc).ownBlock = some q ∨ InR lvs q) → w1.heap.size ≤ q ∧ q < w2.heap.size) := HOL.out.lo
  have HOY : Hid (OwR w1.heap.size y (.slice (some ⟨gl, 0, none⟩) pn lc) lvs P) := HOL.out.below (belowS HB3.out C315.out)
  have HMY : Hid (RG (Value.int .i64) y (.slice (some ⟨gp, 0, none⟩) qn pc2) pts) := HMI.out.below (Nat.le_refl _) C315.out
  have HGPY : Hid (w2.heap.size ≤ gp ∧ gp < y.heap.size) := ⟨HGP.out.1, Nat.lt_of_lt_of_le HGP.out.2 C315.out.size⟩
  have HWW : Hid (Below w.heap.size w y) := CW.out y C315.out
  clear HLE HOL HMI HGP C315 CW HB1 HB2 HB3 B45 HA hcz hcz2
  go_wp2
  have HLT : Hid (∀ q, ((Value.slice (some ⟨gl, 0, none⟩) pn lc).ownBlock = some q ∨ InR lvs q) → q < y.heap.size) := fun q hq => Nat.lt_of_lt_of_le (HIL.out q hq).2 HB2Y.out
  have HZ : Hid (∀ (j : Nat) (u : Value), lvs[j]? = some u → ∀ (uo : Option Addr) (un uc : Nat), u = .slice uo un uc → 0 < un → ∃ g, uo = some ⟨g, 0, none⟩) := fun j u hu uo un uc e h0 => by
    subst e
    obtain ⟨ao, cap, e1, e2, _⟩ := (HOY.out.inn j _ hu).sl
    simp only [Value.slice.injEq] at e1
    obtain ⟨rfl, e3, rfl⟩ := e1
    obtain ⟨g, _, e⟩ := e2 (by omega)
    exact ⟨g, e⟩
  have HLN : Hid (lvs.length = pn) := by show _ = _; rw [HOY.out.len, HN.out]
  have HI0 : Hid (SpI w1.heap.size y y (.slice (some ⟨gl, 0, none⟩) pn lc) lvs (mvF P pn 0 0)) := by
    show SpI _ _ _ _ _ _
    exact SpI.congr ⟨HOY.out.row, HOY.out.inn, FrP.refl _ _⟩ (fun j _ => (mvF_start P pn j).symm)
  have HN0 : Hid (NwI y.heap.size y (.slice none 0 0) [] P pn 0) := ⟨OG.nil _ _ _, rfl, fun j u h => by simp at h⟩
  clear HOY
  go_loopg [21, 22, 23, 24] pn (fun g1 v21 v22 _v23 _v24 wr => ∃ (i : Nat) (no : Option Addr) (nn nc : Nat) (nvs : List Value), v21 = .slice no nn nc ∧ v22 = .int .i64 i ∧ i ≤ pn ∧ pn - i ≤ g1 ∧ Hid (SpI w1.heap.size y wr (.slice (some ⟨gl, 0, none⟩) pn lc) lvs (mvF P pn i 0)) ∧ Hid (NwI y.heap.size wr (.slice no nn nc) nvs P pn i))
  case atStart => exact ⟨0, none, 0, 0, [], rfl, rfl, by omega, by omega, HI0, HN0⟩
  case round =>
    clear HI0 HN0
    obtain ⟨i, no, nn, nc, nvs, rfl, rfl, hin, hg1, HI, HNW⟩ := hrel
    by_cases hlt : i < pn
    · have hltz : (i : Int) < (pn : Int) := by omega
      obtain ⟨u, hu⟩ : ∃ u, lvs[i]? = some u := ⟨_, List.getElem?_eq_getElem (by rw [HLN.out]; exact hlt)⟩
      obtain ⟨uo, un, uc, rfl⟩ : ∃ o n c, u = .slice o n c := by obtain ⟨ao, cap, e⟩ := (HI.out.inn i u hu).rg.sl; exact ⟨_, _, _, e⟩
      have HU : Hid (lvs[i]? = some (.slice uo un uc)) := hu
      have hul := (HI.out.inn i _ hu).rg.len
      rw [mvF_len] at hul
      have HUL : Hid ((P.getD i []).length = un) := hul
      have hun : un ≤ 100000 := by rw [← hul]; exact HBL.out i
      clear hu hul
      go_wp2
      go_loopg [23] un (fun g2 v23 wq => ∃ k : Nat, v23 = .int .i64 k ∧ k ≤ un ∧ un - k ≤ g2 ∧ Hid (SpI w1.heap.size y wq (.slice (some ⟨gl, 0, none⟩) pn lc) lvs (mvF P pn i k)) ∧ Hid (NwI y.heap.size wq (.slice no nn nc) nvs P pn i))
      case atStart => exact ⟨0, rfl, by omega, by omega, HI, HNW⟩
      case round =>
        clear HI HNW
        obtain ⟨k, rfl, hkn, hg2, HI, HNW⟩ := hrel
        have hu2 : wr.cell? ⟨gl, i, none⟩ = some (.slice uo un uc) := (HI.out.row.cell HU.out).1
        by_cases hlk : k < un
        · have hlkz : (k : Int) < (un : Int) := by omega
          obtain ⟨g, rfl⟩ := HZ.out i _ HU.out _ _ _ rfl (by omega)
          obtain ⟨x, hx⟩ : ∃ x, (P.getD i [])[k]? = some x := ⟨_, List.getElem?_eq_getElem (by rw [HUL.out]; exact hlk)⟩
          obtain ⟨hc1, hc2⟩ := (HI.out.inn i _ HU.out).cell (mvF_read (n := pn) hx)
          have HGY : Hid (g < y.heap.size) := HLT.out g (Or.inr ⟨i, _, HU.out, rfl⟩)
          obtain ⟨mx, hmx⟩ : ∃ z, z = mw pn x := ⟨_, rfl⟩
          have HSET : Hid (SpI w1.heap.size y (wr.setCell ⟨g, k, none⟩ (.int .i64 mx)) (.slice (some ⟨gl, 0, none⟩) pn lc) lvs (mvF P pn i (k + 1))) := by
            show SpI _ _ _ _ _ _
            rw [hmx]
            exact HI.out.set HSL.out HU.out k _ (mvF_at hx).symm (fun j hj => mvF_other hj)
          have HNS : Hid (NwI y.heap.size (wr.setCell ⟨g, k, none⟩ (.int .i64 mx)) (.slice no nn nc) nvs P pn i) := HNW.out.blocks fun q hq _ => Below.heap_setCell _ _ _ _ (fun e => by have := HGY.out; have e2 : q = g := e; omega)
          have HMX : Hid (mx = wrap64 ((pn : Int) - 1 - x)) := hmx
          clear hx hmx HI HNW
          go_wp2_with fail
          go_region
          rw [← HMX.out]
          obtain ⟨WN, hWN⟩ : ∃ W, W = (wr.setCell ⟨g, k, none⟩ (.int .i64 mx)).drew := ⟨_, rfl⟩
          have HI2 : Hid (SpI w1.heap.size y WN (.slice (some ⟨gl, 0, none⟩) pn lc) lvs (mvF P pn i (k + 1))) := by
            show SpI _ _ _ _ _ _
            rw [hWN]
            exact HSET.out.frame (S := fun _ => False) (FrP.of_below (Below.refl _ _).drew) (fun _ e => e.elim) HLT.out
          have HN2 : Hid (NwI y.heap.size WN (.slice no nn nc) nvs P pn i) := by show NwI _ _ _ _ _ _ _; rw [hWN]; exact HNS.out.blocks fun _ _ _ => rfl
          rw [← hWN]
          clear hWN HSET HNS HMX hc1 hc2 hu2
          go_wp2
          go_roundg (un - (k + 1))
          case measure => omega
          case rel => exact ⟨k + 1, by first | rfl | go_num, by omega, Nat.le_refl _, HI2, HN2⟩
        · have hlkz : ¬ (k : Int) < (un : Int) := by omega
          obtain rfl : k = un := by omega
          have HRU : Hid (RG (Value.int .i64) wr (.slice uo k uc) ((P.getD i []).map (mw pn))) := by
            have h1 := (HI.out.inn i _ HU.out).rg
            rw [mvF_full HUL.out] at h1
            exact h1
          have HIN : Hid (SpI w1.heap.size y wr (.slice (some ⟨gl, 0, none⟩) pn lc) lvs (mvF P pn (i + 1) 0)) := HI.out.congr (fun j _ => mvF_next HUL.out j)
          have HYW : Hid (y.heap.size ≤ wr.heap.size) := HI.out.frm.size
          have HML : Hid (((P.getD i []).map (mw pn)).length ≤ 100000) := by show _ ≤ _; rw [List.length_map, HUL.out]; exact hun
          clear HI
          go_wp2_with (at_builtin; refine wpList_appG _ (fun _ => rfl) rfl _ _ 24 rfl y.heap.size 3 i0 (.int .i64 0) 8 Try.underlying24 hi hz0 hz1 hz2 rfl _ _ [] ((P.getD i []).map (mw pn)) rfl (OG.nil _ _ _) rfl HRU.out (by have := HML.out; unfold maxLen; simp only [List.length_nil]; omega) (by have := HML.out; simp only [List.length_nil]; omega) HYW.out ?_)
          intro v0 y0 ho0 hg0
          replace ho0 : OG (Value.int .i64) y.heap.size 3 y0 v0 ((P.getD i []).map (mw pn)) := by rw [List.getD_eq_getElem?_getD]; exact ho0
          obtain ⟨o0, n0, c0, rfl⟩ : ∃ o n c, v0 = .slice o n c := by obtain ⟨ao, cap, e, -⟩ := ho0.sl; exact ⟨_, _, _, e⟩
          have hf0 : FrP (fun _ => False) wr y0 := ⟨hg0.os, hg0.tape, hg0.output, hg0.size, fun q hq _ => hg0.block q hq (by simp [Value.ownBlock])⟩
          obtain ⟨WA, hWA⟩ : ∃ W, W = y0.alloc (.cells #[.slice o0 n0 c0] 24) := ⟨_, rfl⟩
          obtain ⟨gb, hgb⟩ : ∃ g, g = y0.heap.size := ⟨_, rfl⟩
          have hbA : Below y0.heap.size y0 WA := by rw [hWA]; exact belowB _ _
          have hfA : FrP (fun _ => False) wr WA := hf0.tr (FrP.of_below (S := fun _ => False) hbA) (fun _ _ e => e)
          have HIA : Hid (SpI w1.heap.size y WA (.slice (some ⟨gl, 0, none⟩) pn lc) lvs (mvF P pn (i + 1) 0)) := HIN.out.frame hfA (fun _ e => e.elim) HLT.out
          have HNA : Hid (NwI y.heap.size WA (.slice no nn nc) nvs P pn i) := HNW.out.blocks fun q _ hq => hfA.block q hq (fun e => e)
          have HXA : Hid (OG (Value.int .i64) y.heap.size 3 WA (.slice o0 n0 c0) ((mvL P pn).getD i [])) := by show OG _ _ _ _ _ _; rw [mvL_get]; exact ho0.below hbA
          have HYA : Hid (y.heap.size ≤ WA.heap.size) := HIA.out.frm.size
          have HCB : Hid (WA.cell? ⟨gb, 0, none⟩ = some (id (.slice o0 n0 c0))) := by show _ = _; rw [hWA, hgb, World.cell?_alloc_at _ _ _ _ rfl]; rfl
          have HWA : Hid (WA = y0.alloc (.cells #[.slice o0 n0 c0] 24)) := hWA
          have HGB : Hid (gb = y0.heap.size) := hgb
          clear ho0 hg0 hf0 hWA hgb hbA hfA HIN HNW HRU HYW HML hu2
          go_wp2_with (at_builtin; rw [← HWA.out, ← HGB.out]; refine wpList_pushV (enc := id) _ rfl _ _ 23 rfl y.heap.size 24 i1 (.slice none 0 0) 24 Try.underlying23 hi1 ha0 ha1 ha2 rfl _ nvs rfl HNA.out.row gb (.slice o0 n0 c0) rfl HCB.out rfl (by rw [HNA.out.len]; unfold maxLen; omega) (by rw [HNA.out.len]; omega) HYA.out ?_)
          intro ng tm ncap W2 ho hg9 hng _
          have HN2 : Hid (NwI y.heap.size W2 (.slice (some ⟨ng, 0, none⟩) tm ncap) (nvs ++ [.slice o0 n0 c0]) P pn (i + 1)) := HNA.out.push ho hg9 HXA.out
          have HI2 : Hid (SpI w1.heap.size y W2 (.slice (some ⟨gl, 0, none⟩) pn lc) lvs (mvF P pn (i + 1) 0)) := HIA.out.frame (FrP.of_grown hg9) (fun q e => (HNA.out.row.lt q e).1) HLT.out
          clear ho hg9 hng HIA HNA HXA HYA HCB HWA HGB
          go_wp2
          go_roundg (pn - (i + 1))
          case measure => omega
          case rel => exact ⟨i + 1, _, _, _, _, rfl, by first | rfl | go_num, by omega, Nat.le_refl _, HI2, HN2⟩
    · have hltz : ¬ (i : Int) < (pn : Int) := by omega
      obtain rfl : i = pn := by omega
      have HML : Hid ((mvL P i).length = i) := by show _ = _; rw [mvL_len, HN.out]
      have HRL : Hid (RRD wr (.slice (some ⟨gl, 0, none⟩) i lc) lvs (mvL P i)) := by
        refine ⟨HI.out.row.rg, by rw [HLN.out, HML.out], fun j u hu => ?_⟩
        have hj : j < i := by have := (List.getElem?_eq_some_iff.1 hu).1; rw [HLN.out] at this; exact this
        have h1 := (HI.out.inn j u hu).rg
        rw [mvF_end hj] at h1
        exact h1
      have HRN : Hid (RRD wr (.slice no nn nc) nvs (mvL P i)) := ⟨HNW.out.row.rg, by rw [HNW.out.len, HML.out], fun j u hu => (HNW.out.inn j u hu).rg⟩
      have HFL : Hid (FrP (InR lvs) y wr) := HI.out.frm
      have BLW : Hid (∀ z : World, z.heap.size ≤ w1.heap.size → Below z.heap.size z y → Below z.heap.size z wr) := fun z hz hb9 => hb9.trans (HFL.out.below (B := z.heap.size) hb9.size (fun q hq => by have := HIL.out q (Or.inr hq); omega))
      have HWR : Hid (RRD wr (.slice wo wn wc) wvs L3) := HWT.out wr (BLW.out w1 (Nat.le_refl _) HW1Y.out)
      have HWZ : Hid (Below w.heap.size w wr) := BLW.out w HB01.out HWW.out
      have HMR : Hid (RG (Value.int .i64) wr (.slice (some ⟨gp, 0, none⟩) qn pc2) pts) := HMY.out.of_blocks fun q hq => HFL.out.block q (by
        have e1 : gp = q := by simpa [Value.ownBlock] using hq
        rw [← e1]; exact HGPY.out.2) (fun hi9 => by
        have e1 : gp = q := by simpa [Value.ownBlock] using hq
        have := HIL.out q (Or.inr hi9); have := HGPY.out.1; omega)
      have H2R : Hid (OwR w4.heap.size wr (.slice o2 n2 k2) rv2 L3) := H215.out.frame HFL.out (fun q hq _ _ hi9 => by have := HIL.out q (Or.inr hi9); have := HB24.out; omega)
      have CT2 : Hid _ := toldD d HD.out _ _ nvs (mvL P i) pts wr HRN.out i HML.out hb (fun j => by rw [mvL_row]; exact HBL.out j) (HQ.out wr HWZ.out) (by rw [HQN.out]; omega)
      clear HI HNW HRN HFL BLW HWT HR HQ H215 HMY
      go_wp2_with fail
      refine Calls.mono CT2.out ?_
      clear CT2
      rintro e z1 ⟨⟨to9, tn, tc, c9, tvs, L9, rfl, ha9, ho9⟩, hz1⟩
      have HT9 : Hid (RRD z1 (.slice to9 tn tc) tvs L9) := ho9.rrd
      have HL9 : Hid (L9.length ≤ 100000) := (anS_small ha9 HML.out hb).1
      have HA9 : Hid (AnS d (mvL P i) i pts c9 L9) := ha9
      have HZ1 : Hid (Below wr.heap.size wr z1) := hz1
      have CC4 : Hid _ := callD d HD.out _ _ lvs (mvL P i) pts z1 (HRL.out.below (Nat.le_refl _) hz1) i HML.out hb (fun j => by rw [mvL_row]; exact HBL.out j) (HMR.out.below (Nat.le_refl _) hz1) (by rw [HQN.out]; omega)
      clear ha9 ho9 hz1
      go_wp2_with fail
      refine Calls.mono CC4.out ?_
      clear CC4
      rintro e z2 ⟨⟨fo2, fn2, fc2, c8, rv8, L8, rfl, ha8, ho8, _⟩, hz2⟩
      obtain ⟨e1, e2⟩ := ha8.uniq HA9.out
      subst e1
      subst e2
      have hcc9 : (c8 == c8) = true := by simp
      have HZ2 : Hid (Below wr.heap.size wr z2) := belowS HZ1.out hz2
      have SF : Hid _ := sameRD _ _ rv8 tvs L8 z2 ho8.rrd (HT9.out.below (Nat.le_refl _) hz2) (by have := HL9.out; omega)
      clear ha8 ho8 hz2
      go_wp2_with fail
      refine Calls.mono SF.out ?_
      clear SF
      rintro e z3 ⟨rfl, hz3⟩
      have HZ3 : Hid (Below wr.heap.size wr z3) := belowS HZ2.out hz3
      have SG : Hid _ := sameRD _ _ rv2 wvs L3 z3 (H2R.out.below HZ3.out).rrd (HWR.out.below (Nat.le_refl _) HZ3.out) (by have := HLL.out; omega)
      clear hz3
      go_wp2_with fail
      refine Calls.mono SG.out ?_
      clear SG
      rintro e z4 ⟨rfl, hz4⟩
      have HZ4 : Hid (Below w.heap.size w z4) := belowS HWZ.out (belowS HZ3.out hz4)
      clear hz4
      go_wp2
      go_ret
      exact ⟨rfl, HZ4.out⟩
end Go.Proofs.Ytmgbhbdcnciccaa
