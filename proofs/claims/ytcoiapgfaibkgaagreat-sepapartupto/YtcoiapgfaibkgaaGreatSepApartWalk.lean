/-
  Proved here: the law SepApart answers true.
-/
import Derived.Test.YtcoiapgfaibkgaaGreatHuK
namespace Go.Proofs.YtcoiapgfaibkgaaGreat
set_option linter.unusedVariables false
open Go.RowKit Go.Shelf Go.Sort Go.Lib
set_option maxRecDepth 1000000 in
set_option maxHeartbeats 12800000 in
theorem sepApart_top (pv : Value) (pvs : List Value) (P : List (List Int)) (av : Value) (a : List Int) (bv : Value) (b : List Int) (qv : Value) (G : List Int) (w : World) (h : RRD w pv pvs P) (hbl : ∀ i, (P.getD i []).length ≤ 1048576) (ha : RG (Value.int .i64) w av a) (hal : a.length ≤ 1048576) (hb : RG (Value.int .i64) w bv b) (hbz : b.length ≤ 1048576) (hq : RG (Value.int .i64) w qv G) (hql : G.length ≤ 1048576) :
    Calls Tryz.prog 4 #[pv, av, bv, qv] w fun e w' => e = .returned (.bool true) ∧ Below w.heap.size w w' := by
  obtain ⟨po, n, pc, rfl⟩ : ∃ o n c, pv = .slice o n c := by obtain ⟨ao, cap, e⟩ := h.out.sl; exact ⟨_, _, _, e⟩
  obtain ⟨ao, an, ac, rfl⟩ : ∃ o n c, av = .slice o n c := by obtain ⟨ao, cap, e⟩ := ha.sl; exact ⟨_, _, _, e⟩
  obtain ⟨bo, bn, bc, rfl⟩ : ∃ o n c, bv = .slice o n c := by obtain ⟨ao, cap, e⟩ := hb.sl; exact ⟨_, _, _, e⟩
  obtain ⟨qo, qn, qc, rfl⟩ : ∃ o n c, qv = .slice o n c := by obtain ⟨ao, cap, e⟩ := hq.sl; exact ⟨_, _, _, e⟩
  have hnP : P.length = n := by rw [← h.len, h.out.len]
  have hnc := h.out.room.1
  have hncz : (n : Int) ≤ (pc : Int) := by omega
  obtain ⟨m, hm⟩ : ∃ m, m = min n 7 := ⟨_, rfl⟩
  have hcut := h.cut7 (m := m) (by omega)
  have hl := len_take7 m hbl
  have hnm : (P.take m).length = m := by rw [List.length_take]; omega
  generalize P.take m = Q at hcut hl hnm
  generalize pvs.take m = qvs at hcut
  have HR : Hid (∀ W, Below w.heap.size w W → RRD W (.slice po m pc) qvs Q) := fun W hW => hcut.below (Nat.le_refl _) hW
  have HA : Hid (∀ W, Below w.heap.size w W → RG (Value.int .i64) W (.slice ao an ac) a) := fun W hW => ha.below (Nat.le_refl _) hW
  have HB : Hid (∀ W, Below w.heap.size w W → RG (Value.int .i64) W (.slice bo bn bc) b) := fun W hW => hb.below (Nat.le_refl _) hW
  have HQ : Hid (∀ W, Below w.heap.size w W → RG (Value.int .i64) W (.slice qo qn qc) G) := fun W hW => hq.below (Nat.le_refl _) hW
  have HL : Hid (∀ i, (Q.getD i []).length ≤ 1048576) := hl
  have HAL : Hid (a.length ≤ 1048576) := hal
  have HBZ : Hid (b.length ≤ 1048576) := hbz
  have HQL : Hid (G.length ≤ 1048576) := hql
  have HN : Hid (Q.length = m) := hnm
  have hm7 : m ≤ 7 := by omega
  have hm2 : n ≤ 7 ∧ m = n ∨ ¬ n ≤ 7 ∧ m = 7 := by omega
  clear hcut h hbl hnP hm hl hnm ha hal hb hbz hq hql
  go_enter Tryz.func4, Tryz.ntmps4
  go_upto_region 1 with fail
  go_cut [0] from 19 to 23 (fun v0 wx => v0 = .slice po m pc ∧ wx = w)
  case first =>
    rcases hm2 with ⟨h40, hmm⟩ | ⟨h40, hmm⟩
    · subst hmm
      have h40z : (m : Int) ≤ 7 := by omega
      have hmin : min (m : Int) 7 = (m : Int) := by omega
      go_wp2
      go_meet
      exact ⟨rfl, rfl⟩
    · subst hmm
      have h40z : ¬ (n : Int) ≤ 7 := by omega
      have hmin : min (n : Int) 7 = 7 := by omega
      have hpc : (7 : Int) ≤ (pc : Int) := by omega
      go_wp2
      go_meet
      exact ⟨rfl, rfl⟩
  case rest =>
    obtain ⟨rfl, hwc⟩ := hcut
    obtain rfl := hwc.symm
    have CT : Hid _ := twin16 _ _ Q w (HR.out w (Below.refl _ _)) m HN.out (by omega) HL.out
    clear hm2
    go_wp2_with fail
    refine Calls.mono CT.out ?_
    rintro e y1 ⟨tv, tvs, rfl, ht⟩
    obtain ⟨tO, tn, tc, rfl⟩ : ∃ o n c, tv = .slice o n c := by obtain ⟨ao, cap, e⟩ := ht.row.rg.sl; exact ⟨_, _, _, e⟩
    have HB1 : Hid (Below w.heap.size w y1) := ht.frm
    have HHT : Hid (∀ W, Below y1.heap.size y1 W → TwI w.heap.size w W Q m (.slice tO tn tc) tvs) := fun W hW => ht.below ht.frm.size hW
    have HPL : Hid (∀ q, (Value.slice tO tn tc).ownBlock = some q → q < y1.heap.size) := fun q e => (ht.row.lt q e).2
    have CA : Hid _ := roomy16 (.slice ao an ac) a y1 (HA.out y1 ht.frm) HAL.out
    clear CT ht
    go_wp2_with fail
    refine Calls.mono CA.out ?_
    rintro e y2 ⟨xv, rfl, hx, b2⟩
    obtain ⟨xo, xn, xc, rfl⟩ : ∃ o n c, xv = .slice o n c := by obtain ⟨ao, cap, e⟩ := hx.rg.sl; exact ⟨_, _, _, e⟩
    have HX : Hid (∀ W, Below y2.heap.size y2 W → RmB y1.heap.size W (.slice xo xn xc) a) := fun W hW => hx.below hW
    have HXL : Hid (∀ q, (Value.slice xo xn xc).ownBlock = some q → q < y2.heap.size) := fun q e => (hx.lt q e).2
    have HB2 : Hid (Below w.heap.size w y2) := bstepB HB1.out b2
    have HC2 : Hid (Below y1.heap.size y1 y2) := b2
    have CY : Hid _ := roomy16 (.slice bo bn bc) b y2 (HB.out y2 HB2.out) HBZ.out
    clear CA hx b2
    go_wp2_with fail
    refine Calls.mono CY.out ?_
    rintro e y3 ⟨yv, rfl, hy, b3⟩
    obtain ⟨yo, yn, yc, rfl⟩ : ∃ o n c, yv = .slice o n c := by obtain ⟨ao, cap, e⟩ := hy.rg.sl; exact ⟨_, _, _, e⟩
    have HY : Hid (∀ W, Below y3.heap.size y3 W → RmB y2.heap.size W (.slice yo yn yc) b) := fun W hW => hy.below hW
    have HYL : Hid (∀ q, (Value.slice yo yn yc).ownBlock = some q → q < y3.heap.size) := fun q e => (hy.lt q e).2
    have HB3 : Hid (Below w.heap.size w y3) := bstepB HB2.out b3
    have HC3 : Hid (Below y1.heap.size y1 y3) := bstepB HC2.out b3
    have HD3 : Hid (Below y2.heap.size y2 y3) := b3
    have CG : Hid _ := roomy16 (.slice qo qn qc) G y3 (HQ.out y3 HB3.out) HQL.out
    clear CY hy b3
    go_wp2_with fail
    refine Calls.mono CG.out ?_
    rintro e y4 ⟨zv, rfl, hz, b4⟩
    obtain ⟨zo, zn, zc, rfl⟩ : ∃ o n c, zv = .slice o n c := by obtain ⟨ao, cap, e⟩ := hz.rg.sl; exact ⟨_, _, _, e⟩
    have HZ : Hid (∀ W, Below y4.heap.size y4 W → RmB y3.heap.size W (.slice zo zn zc) G) := fun W hW => hz.below hW
    have HB4 : Hid (Below w.heap.size w y4) := bstepB HB3.out b4
    have HC4 : Hid (Below y1.heap.size y1 y4) := bstepB HC3.out b4
    have HD4 : Hid (Below y2.heap.size y2 y4) := bstepB HD3.out b4
    have HE4 : Hid (Below y3.heap.size y3 y4) := b4
    have HSZ : Hid (y1.heap.size ≤ y2.heap.size ∧ y2.heap.size ≤ y3.heap.size ∧ w.heap.size ≤ y1.heap.size) := ⟨HC2.out.size, HD3.out.size, HB1.out.size⟩
    have CR : Hid _ := refApart (.slice po m pc) (.slice ao an ac) (.slice bo bn bc) (.slice qo qn qc) qvs Q a b G y4 (HR.out y4 HB4.out) m HN.out (by omega) (HA.out y4 HB4.out) HAL.out (HB.out y4 HB4.out) HBZ.out (HQ.out y4 HB4.out) HQL.out
    clear CG hz b4 HC2 HC3 HD3 HB1 HB2 HB3
    go_wp2_with fail
    refine Calls.mono CR.out ?_
    rintro e y5 ⟨wv, rfl, hw, b5⟩
    have HWV : Hid (ApV Q a b G (apE Q m a b G) wv) := hw
    have HF5 : Hid (Below y4.heap.size y4 y5) := b5
    have HRT : Hid (∀ W, Below y4.heap.size y4 W → RRD W (.slice tO tn tc) tvs Q) := fun W hW => by
      have h1 := HHT.out W (bstepB HC4.out hW)
      have h2 := HN.out
      subst h2
      exact h1.rrd
    have HRX : Hid (∀ W, Below y4.heap.size y4 W → RG (Value.int .i64) W (.slice xo xn xc) a) := fun W hW => (HX.out W (bstepB HD4.out hW)).rg
    have HRY : Hid (∀ W, Below y4.heap.size y4 W → RG (Value.int .i64) W (.slice yo yn yc) b) := fun W hW => (HY.out W (bstepB HE4.out hW)).rg
    have HRZ : Hid (∀ W, Below y4.heap.size y4 W → RG (Value.int .i64) W (.slice zo zn zc) G) := fun W hW => (HZ.out W hW).rg
    have C1 : Hid _ := apartU (.slice tO tn tc) (.slice xo xn xc) (.slice yo yn yc) (.slice zo zn zc) tvs Q a b G y5 (HRT.out y5 b5) m HN.out (by omega) (HRX.out y5 b5) HAL.out (HRY.out y5 b5) HBZ.out (HRZ.out y5 b5) HQL.out
    clear CR hw b5
    go_wp2_with fail
    refine Calls.mono C1.out ?_
    rintro e y6 ⟨gv, rfl, hg, b6⟩
    obtain ⟨r, rfl, rfl⟩ := HWV.out.same hg
    have HF6 : Hid (Below y4.heap.size y4 y6) := bstepB HF5.out b6
    have C2 : Hid _ := apartU (.slice tO tn tc) (.slice xo xn xc) (.slice yo yn yc) (.slice zo zn zc) tvs Q a b G y6 (HRT.out y6 HF6.out) m HN.out (by omega) (HRX.out y6 HF6.out) HAL.out (HRY.out y6 HF6.out) HBZ.out (HRZ.out y6 HF6.out) HQL.out
    clear C1 hg b6 HF5
    go_wp2_with fail
    refine Calls.mono C2.out ?_
    rintro e y7 ⟨kv, rfl, hk, b7⟩
    obtain ⟨r', hr1, rfl⟩ := HWV.out.same hk
    obtain rfl : r = r' := by simpa using hr1
    have HF7 : Hid (Below y4.heap.size y4 y7) := bstepB HF6.out b7
    have HB7 : Hid (Below w.heap.size w y7) := bstepB HB4.out HF7.out
    have HC7 : Hid (Below y1.heap.size y1 y7) := bstepB HC4.out HF7.out
    have HD7 : Hid (Below y2.heap.size y2 y7) := bstepB HD4.out HF7.out
    have HE7 : Hid (Below y3.heap.size y3 y7) := bstepB HE4.out HF7.out
    have CK : Hid _ := kept16 w.heap.size w (.slice tO tn tc) (.slice po m pc) qvs tvs Q y7 (HR.out y7 HB7.out) m HN.out HL.out (HHT.out y7 HC7.out)
    obtain ⟨c, hc⟩ : ∃ c, c = apE Q m a b G := ⟨_, rfl⟩
    rw [← hc]
    have hcn : (c != c) = false := by simp
    have hrn : (r != r) = false := by simp
    clear C2 hk b7 HF6 hr1 HWV hc
    go_wp2_with fail
    refine Calls.mono CK.out ?_
    rintro e y8 ⟨rfl, q, hq8⟩
    have b8 : Below y7.heap.size y7 y8 := by rw [hq8]; exact below_drewN (Below.refl _ _) q
    have HF8 : Hid (Below y4.heap.size y4 y8) := bstepB HF7.out b8
    have CS : Hid _ := still16 y1.heap.size (.slice xo xn xc) (.slice ao an ac) a y8 (HX.out y8 (bstepB HD7.out b8)) (HA.out y8 (bstepB HB7.out b8)) HAL.out
    clear CK b8 hq8 HF7 HB7 HC7 HD7 HE7
    go_wp2_with fail
    refine Calls.mono CS.out ?_
    rintro e y9 ⟨rfl, q2, hq9⟩
    have HF9 : Hid (Below y4.heap.size y4 y9) := bstepB HF8.out (by rw [hq9]; exact below_drewN (Below.refl _ _) q2)
    have CU : Hid _ := still16 y2.heap.size (.slice yo yn yc) (.slice bo bn bc) b y9 (HY.out y9 (bstepB HE4.out HF9.out)) (HB.out y9 (bstepB HB4.out HF9.out)) HBZ.out
    clear CS hq9 HF8
    go_wp2_with fail
    refine Calls.mono CU.out ?_
    rintro e y10 ⟨rfl, q3, hq10⟩
    have HF10 : Hid (Below y4.heap.size y4 y10) := bstepB HF9.out (by rw [hq10]; exact below_drewN (Below.refl _ _) q3)
    have CZ : Hid _ := still16 y3.heap.size (.slice zo zn zc) (.slice qo qn qc) G y10 (HZ.out y10 HF10.out) (HQ.out y10 (bstepB HB4.out HF10.out)) HQL.out
    clear CU hq10 HF9
    go_wp2_with fail
    refine Calls.mono CZ.out ?_
    rintro e y11 ⟨rfl, q4, hq11⟩
    have HF11 : Hid (Below y4.heap.size y4 y11) := bstepB HF10.out (by rw [hq11]; exact below_drewN (Below.refl _ _) q4)
    have HB11 : Hid (Below w.heap.size w y11) := bstepB HB4.out HF11.out
    have CN : Hid _ := anew16 w.heap.size y1.heap.size y2.heap.size y3.heap.size w (.slice tO tn tc) (.slice xo xn xc) (.slice yo yn yc) (.slice zo zn zc) tvs Q m a b G y11 HSZ.out.2.2 HSZ.out.1 HSZ.out.2.1 (Nat.le_trans HE4.out.size HF11.out.size) HN.out (by omega) HL.out
      (fun W hW => HHT.out W ((bstepB HC4.out HF11.out).trans hW)) HPL.out (HX.out y11 (bstepB HD4.out HF11.out)) HXL.out HAL.out (HY.out y11 (bstepB HE4.out HF11.out)) HYL.out HBZ.out (HZ.out y11 HF11.out) HQL.out
    clear CZ hq11 HF10
    go_wp2_with fail
    refine Calls.mono CN.out ?_
    rintro e y12 ⟨rfl, b12⟩
    have HE : Hid (Below w.heap.size w y12) := HB11.out.trans b12
    clear CN b12
    go_wp2
    go_ret
    exact ⟨rfl, HE.out⟩
end Go.Proofs.YtcoiapgfaibkgaaGreat
