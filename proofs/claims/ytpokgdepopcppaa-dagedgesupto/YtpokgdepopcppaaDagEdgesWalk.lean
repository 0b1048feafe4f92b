/-
  Proved here: the law DagEdges returns true, whatever the parents, where each list is of at most 1048576 numbers.
-/
import Derived.Test.YtpokgdepopcppaaDagEdgesM
namespace Go.Proofs.Ytpokgdepopcppaa
set_option linter.unusedVariables false
open Go.RowKit
set_option maxRecDepth 100000 in
set_option maxHeartbeats 25600000 in
theorem dagEdges_top (pv : Value) (pvs : List Value) (P : List (List Int)) (w : World) (h : RRD w pv pvs P) (hbl : ∀ i, (P.getD i []).length ≤ 1048576) :
    Calls Try.prog 5 #[pv] w fun e w' => e = .returned (.bool true) ∧ Below w.heap.size w w' := by
  obtain ⟨i1, hi1, ha0, ha1, ha2⟩ := info_parts Try.infoED
  have CM : Hid _ := manyD pv pvs P w h hbl
  obtain ⟨po, pn, pc, rfl⟩ : ∃ o n c, pv = .slice o n c := by obtain ⟨ao, cap, e⟩ := h.out.sl; exact ⟨_, _, _, e⟩
  have hn : P.length = pn := by rw [← h.len, h.out.len]
  have HR : Hid (RRD w (.slice po pn pc) pvs P) := h
  have HN : Hid (P.length = pn) := hn
  clear h hn hbl
  go_enter Try.func5, Try.ntmps5
  go_wp2_with fail
  refine Calls.mono CM.out ?_
  rintro e y ⟨rfl, hy0⟩
  rw [hy0]
  clear hy0 y CM
  rcases hm : manyB P with _ | _
  case true =>
    clear hm
    go_wp2
    go_ret
    exact ⟨rfl, Below.refl _ _⟩
  obtain ⟨hm1, hm2⟩ := many_no hm
  rw [HN.out] at hm1
  have hel : ∀ i, i ≤ pn → (edF P i).length ≤ 100000 := fun i hi => by rw [edF_len]; have := smL_mono (P := P) (show i ≤ P.length by rw [HN.out]; exact hi); omega
  have hbl : ∀ i, (P.getD i []).length ≤ 100000 := fun i => by have := len_sm P i; omega
  have HAL : Hid ((edA P).length ≤ 2000) := by
    show _ ≤ _
    unfold edA
    split
    · rw [edF_len]; exact hm2
    · simp
  have HNB : Hid (pn ≤ 100000) := by show _ ≤ _; omega
  have HBL : Hid (∀ i, (P.getD i []).length ≤ 100000) := hbl
  have HEL : Hid (∀ i, i ≤ pn → (edF P i).length ≤ 100000) := hel
  have CW : Hid _ := refEdgesD _ pvs P w HR.out pn HN.out HNB.out hbl hel
  obtain ⟨c, hc⟩ : ∃ c, c = ckE P := ⟨_, rfl⟩
  have hcc : (c != c) = false := by simp
  rw [← hc] at CW
  have HC : Hid (ckE P = c) := hc.symm
  clear hm hm1 hm2 hbl hel hc
  go_wp2_with fail
  refine Calls.mono CW.out ?_
  rintro e y1 ⟨wv, rfl, hw1, hw2⟩
  have HW1 : Hid (OE w.heap.size y1 wv (edA P)) := hw1
  have HB1 : Hid (Below w.heap.size w y1) := hw2
  obtain ⟨wO, wC, rfl, -, -⟩ := hw1.sl
  clear CW hw1 hw2
  have CL : Hid _ := lentD _ pvs P y1 (HR.out.below (Nat.le_refl _) HB1.out) pn HN.out HNB.out HBL.out
  go_wp2_with fail
  refine Calls.mono CL.out ?_
  rintro e y2 ⟨l, full, rfl, gl, lc, fvs, lvs, m, hl1, hl2⟩
  have HLE : Hid (LtE y2 P pn l full gl lc fvs lvs m) := hl1
  have HB2 : Hid (Below w.heap.size w y2) := bstepB HB1.out hl2
  have HW2 : Hid (OE w.heap.size y2 (.slice wO (edA P).length wC) (edA P)) := HW1.out.below hl2
  obtain rfl := hl1.le
  obtain ⟨fO, fN, fC, rfl⟩ : ∃ o n c, full = .slice o n c := by obtain ⟨ao, cap, e⟩ := hl1.full.out.sl; exact ⟨_, _, _, e⟩
  clear CL hl1 hl2 HW1 HB1
  have HED : Hid (∀ W, Below y2.heap.size y2 W → Calls Try.prog 15 #[.slice (some ⟨gl, 0, none⟩) pn lc] W fun e w' => ∃ tv, e = .returned (.tuple #[tv, .int .i64 c]) ∧ OE W.heap.size w' tv (edA P) ∧ Below W.heap.size W w') := fun W hW => by
    have := edgesD _ lvs P W (HLE.out.below hW).lent pn HN.out HNB.out HBL.out HEL.out
    rw [HC.out] at this
    exact this
  have HEI : Hid (∀ W v, RE W v (edA P) → Calls Try.prog 17 #[v] W fun e w' => ∃ tv, e = .returned tv ∧ OG (Value.int .i64) W.heap.size 3 w' tv (edI (edA P)) ∧ Below W.heap.size W w') := fun W v hv => edgesI v (edA P) W hv (by have := HAL.out; omega)
  have HKP : Hid (∀ W, Below y2.heap.size y2 W → Calls Try.prog 18 #[.slice (some ⟨gl, 0, none⟩) pn lc, .slice fO fN fC, .slice po pn pc] W fun e w' => e = .returned (.bool true) ∧ Below W.heap.size W w') := fun W hW => keptD _ _ _ pvs P W (HR.out.below (Nat.le_refl _) (HB2.out.trans (hW.mono HB2.out.size))) pn HN.out HNB.out HBL.out gl lc fvs lvs m (HLE.out.below hW)
  clear HC HNB HBL HEL HLE
  have CA : Hid _ := HED.out y2 (Below.refl _ _)
  go_wp2_with fail
  refine Calls.mono CA.out ?_
  rintro e y3 ⟨av, rfl, hv1, hv2⟩
  have HA3 : Hid (OE y2.heap.size y3 av (edA P)) := hv1
  have HB3 : Hid (Below y2.heap.size y2 y3) := hv2
  obtain ⟨aO, aC, rfl, -, -⟩ := hv1.sl
  clear CA hv1 hv2
  have CB : Hid _ := HED.out y3 HB3.out
  go_wp2_with fail
  refine Calls.mono CB.out ?_
  rintro e y4 ⟨bv, rfl, hv1, hv2⟩
  have HV4 : Hid (OE y3.heap.size y4 bv (edA P)) := hv1
  have HB4 : Hid (Below y2.heap.size y2 y4) := bstepB HB3.out hv2
  have HA4 : Hid (OE y2.heap.size y4 (.slice aO (edA P).length aC) (edA P)) := HA3.out.below hv2
  have HA3L : Hid (∀ q, (Value.slice aO (edA P).length aC).ownBlock = some q → y2.heap.size ≤ q ∧ q < y3.heap.size) := fun q hq => HA3.out.lt q hq
  obtain ⟨bO, bC, rfl, -, -⟩ := hv1.sl
  clear CB hv1 hv2 HA3 HB3
  have CE : Hid _ := HEI.out y4 _ HA4.out.re
  go_wp2_with fail
  refine Calls.mono CE.out ?_
  rintro e z1 ⟨t1, rfl, hz1, hz2⟩
  have HS1 : Hid (RG (Value.int .i64) z1 t1 (edI (edA P))) := hz1.rg
  have HBz1 : Hid (Below y2.heap.size y2 z1) := bstepB HB4.out hz2
  have HAz1 : Hid (OE y2.heap.size z1 (.slice aO (edA P).length aC) (edA P)) := HA4.out.below hz2
  have HVz1 : Hid (OE y3.heap.size z1 (.slice bO (edA P).length bC) (edA P)) := HV4.out.below hz2
  clear CE hz1 hz2 HA4 HV4 HB4
  have CE : Hid _ := HEI.out z1 _ (HW2.out.below HBz1.out).re
  go_wp2_with fail
  refine Calls.mono CE.out ?_
  rintro e z2 ⟨t2, rfl, hz1, hz2⟩
  have CS : Hid _ := sameT t1 t2 _ z2 (HS1.out.below (Nat.le_refl _) hz2) hz1.rg
  have HBz2 : Hid (Below y2.heap.size y2 z2) := bstepB HBz1.out hz2
  have HAz2 : Hid (OE y2.heap.size z2 (.slice aO (edA P).length aC) (edA P)) := HAz1.out.below hz2
  have HVz2 : Hid (OE y3.heap.size z2 (.slice bO (edA P).length bC) (edA P)) := HVz1.out.below hz2
  clear CE hz1 hz2 HS1 HAz1 HVz1 HBz1
  go_wp2_with fail
  refine Calls.mono CS.out ?_
  rintro e z3 ⟨rfl, hz2⟩
  have HBz3 : Hid (Below y2.heap.size y2 z3) := bstepB HBz2.out hz2
  have HAz3 : Hid (OE y2.heap.size z3 (.slice aO (edA P).length aC) (edA P)) := HAz2.out.below hz2
  have HVz3 : Hid (OE y3.heap.size z3 (.slice bO (edA P).length bC) (edA P)) := HVz2.out.below hz2
  clear CS hz2 HAz2 HVz2 HBz2
  have CE : Hid _ := HEI.out z3 _ HVz3.out.re
  go_wp2_with fail
  refine Calls.mono CE.out ?_
  rintro e z4 ⟨t3, rfl, hz1, hz2⟩
  have HS1 : Hid (RG (Value.int .i64) z4 t3 (edI (edA P))) := hz1.rg
  have HBz4 : Hid (Below y2.heap.size y2 z4) := bstepB HBz3.out hz2
  have HAz4 : Hid (OE y2.heap.size z4 (.slice aO (edA P).length aC) (edA P)) := HAz3.out.below hz2
  have HVz4 : Hid (OE y3.heap.size z4 (.slice bO (edA P).length bC) (edA P)) := HVz3.out.below hz2
  clear CE hz1 hz2 HAz3 HVz3 HBz3
  have CE : Hid _ := HEI.out z4 _ (HW2.out.below HBz4.out).re
  go_wp2_with fail
  refine Calls.mono CE.out ?_
  rintro e z5 ⟨t4, rfl, hz1, hz2⟩
  have CS : Hid _ := sameT t3 t4 _ z5 (HS1.out.below (Nat.le_refl _) hz2) hz1.rg
  have HBz5 : Hid (Below y2.heap.size y2 z5) := bstepB HBz4.out hz2
  have HAz5 : Hid (OE y2.heap.size z5 (.slice aO (edA P).length aC) (edA P)) := HAz4.out.below hz2
  have HVz5 : Hid (OE y3.heap.size z5 (.slice bO (edA P).length bC) (edA P)) := HVz4.out.below hz2
  clear CE hz1 hz2 HS1 HAz4 HVz4 HBz4
  go_wp2_with fail
  refine Calls.mono CS.out ?_
  rintro e z6 ⟨rfl, hz2⟩
  have HBz6 : Hid (Below y2.heap.size y2 z6) := bstepB HBz5.out hz2
  have HAz6 : Hid (OE y2.heap.size z6 (.slice aO (edA P).length aC) (edA P)) := HAz5.out.below hz2
  have HVz6 : Hid (OE y3.heap.size z6 (.slice bO (edA P).length bC) (edA P)) := HVz5.out.below hz2
  clear CS hz2 HAz5 HVz5 HBz5
  have CK : Hid _ := HKP.out z6 HBz6.out
  go_wp2_with fail
  refine Calls.mono CK.out ?_
  rintro e Y ⟨rfl, hz2⟩
  obtain ⟨n, hn⟩ : ∃ n, (edA P).length = n := ⟨_, rfl⟩
  have HBY : Hid (Below y2.heap.size y2 Y) := bstepB HBz6.out hz2
  have HAY : Hid (OX y2.heap.size Y (.slice aO n aC) n) := by rw [← hn]; exact (HAz6.out.below hz2).ox
  have HVY : Hid (OE y3.heap.size Y (.slice bO (edA P).length bC) (edA P)) := HVz6.out.below hz2
  rw [hn] at HVY HA3L HW2
  have hnb : n ≤ 2000 := by rw [← hn]; exact HAL.out
  rw [hn]
  clear CK hz2 HAz6 HVz6 HBz6 hn HAL
  have HF0 : Hid (FrP (fun q => (Value.slice aO n aC).ownBlock = some q) Y Y) := FrP.refl _ _
  go_wp2
  go_loopg [11] n (fun g1 v11 wr => ∃ i : Nat, v11 = .int .i64 i ∧ i ≤ n ∧ n - i ≤ g1 ∧ Hid (OX y2.heap.size wr (.slice aO n aC) n) ∧ Hid (FrP (fun q => (Value.slice aO n aC).ownBlock = some q) Y wr))
  case atStart => exact ⟨0, rfl, by omega, by omega, HAY, HF0⟩
  case round =>
    clear HAY HF0
    obtain ⟨i, rfl, hin, hg1, HAY, HF⟩ := hrel
    by_cases hlt : i < n
    · have hltz : (i : Int) < (n : Int) := by omega
      obtain ⟨g, rfl, u0, u1, k0, k1, kf, ks⟩ := HAY.out.cells hlt
      have f0 := kf (i * 2)
      have f1 := kf (i * 2 + 1)
      have HS1 : Hid (OX y2.heap.size (wr.setCell ⟨g, i * 2, none⟩ (.int .i64 (-5))) (.slice (some ⟨g, 0, none⟩) n aC) n) := ks _ _
      obtain ⟨g', e', v0, v1, m0, m1, mf, ms⟩ := HS1.out.cells hlt
      simp only [Option.some.injEq, Addr.mk.injEq, and_true] at e'
      subst e'
      have f2 := mf (i * 2 + 1)
      obtain ⟨WN, hWN⟩ : ∃ W, W = (wr.setCell ⟨g, i * 2, none⟩ (.int .i64 (-5))).setCell ⟨g, i * 2 + 1, none⟩ (.int .i64 (-6)) := ⟨_, rfl⟩
      have HA2 : Hid (OX y2.heap.size WN (.slice (some ⟨g, 0, none⟩) n aC) n) := by rw [hWN]; exact ms _ _
      have HF2 : Hid (FrP (fun q => (Value.slice (some ⟨g, 0, none⟩) n aC).ownBlock = some q) Y WN) := by show FrP _ _ _; rw [hWN]; exact (HF.out.put ⟨g, i * 2, none⟩ _ (fun _ => rfl)).put ⟨g, i * 2 + 1, none⟩ _ (fun _ => rfl)
      have HWN : Hid (WN = (wr.setCell ⟨g, i * 2, none⟩ (.int .i64 (-5))).setCell ⟨g, i * 2 + 1, none⟩ (.int .i64 (-6))) := hWN
      clear hWN kf ks mf ms HS1 HAY HF
      go_wp2
      rw [← HWN.out]
      clear HWN k0 k1 f0 f1 f2 m0 m1
      go_roundg (n - (i + 1))
      case measure => omega
      case rel => exact ⟨i + 1, by first | rfl | go_num, by omega, Nat.le_refl _, HA2, HF2⟩
    · have hltz : ¬ (i : Int) < (n : Int) := by omega
      have HL0 : Hid (∀ q, (Value.slice aO n aC).ownBlock = some q → (Value.slice aO n aC).ownBlock = some q ∨ Y.heap.size ≤ q) := fun q hq => Or.inl hq
      clear hltz hin hg1
      go_wp2
      go_loopg [12, 13] 9 (fun g1 v12 v13 wr => ∃ (i k : Nat) (lO : Option Addr) (lC : Nat), v12 = .slice lO k lC ∧ v13 = .int .i64 i ∧ k = n + i ∧ i ≤ 9 ∧ 9 - i ≤ g1 ∧ Hid (OX y2.heap.size wr (.slice lO k lC) k) ∧ Hid (FrP (fun q => (Value.slice aO n aC).ownBlock = some q) Y wr) ∧ Hid (∀ q, (Value.slice lO k lC).ownBlock = some q → (Value.slice aO n aC).ownBlock = some q ∨ Y.heap.size ≤ q))
      case atStart => exact ⟨0, n, aO, aC, rfl, rfl, rfl, by omega, by omega, HAY, HF, HL0⟩
      case round =>
        clear HAY HF HL0
        obtain ⟨j, k, lO, lC, rfl, rfl, hk, hj9, hg2, HX, HF, HL⟩ := hrel
        by_cases hlj : j < 9
        · have hljz : (j : Int) < 9 := by omega
          have hkb : k ≤ 1000000 := by omega
          have HKJ : Hid (k = n + j) := hk
          clear hk
          obtain ⟨WA, hWA⟩ : ∃ W, W = wr.alloc (.cells #[.int .i64 (-7), .int .i64 (-8)] 39) := ⟨_, rfl⟩
          obtain ⟨gb, hgb⟩ : ∃ g, g = wr.heap.size := ⟨_, rfl⟩
          have HBA : Hid (Below wr.heap.size wr WA) := by show Below _ _ _; rw [hWA]; exact belowB _ _
          have HC0 : Hid (WA.cell? ⟨gb, 0, none⟩ = some (.int .i64 (-7)) ∧ WA.cell? ⟨gb, 1, none⟩ = some (.int .i64 (-8))) := ⟨by rw [hWA, hgb, World.cell?_alloc_at _ _ _ _ rfl]; rfl, by rw [hWA, hgb, World.cell?_alloc_at _ _ _ _ rfl]; rfl⟩
          have HWA : Hid (WA = wr.alloc (.cells #[.int .i64 (-7), .int .i64 (-8)] 39)) := hWA
          have HGB : Hid (gb = wr.heap.size) := hgb
          have HXA : Hid (OX y2.heap.size WA (.slice lO k lC) k) := HX.out.of_blocks fun q hq => HBA.out.block q (HX.out.lt q hq).2
          have HSZ : Hid (y2.heap.size ≤ WA.heap.size) := Nat.le_trans HBY.out.size (Nat.le_trans HF.out.size HBA.out.size)
          clear hWA hgb
          go_wp2_with (at_builtin; rw [← HWA.out, ← HGB.out]; refine wpList_pushX _ rfl _ _ 30 rfl y2.heap.size i1 Try.underlying30 hi1 ha0 ha1 ha2 _ k rfl HXA.out gb (-7) (-8) rfl HC0.out.1 HC0.out.2 hkb HSZ.out ?_)
          intro ng ncap W2 ho hg3 hng _
          have HX2 : Hid (OX y2.heap.size W2 (.slice (some ⟨ng, 0, none⟩) (k + 1) ncap) (k + 1)) := ho
          have HF2 : Hid (FrP (fun q => (Value.slice aO n aC).ownBlock = some q) Y W2) := (HF.out.tr (FrP.of_below (S := fun _ => False) HBA.out) (fun q _ e => e.elim)).tr (FrP.of_grown hg3) (fun q hq e => by
            rcases HL.out q e with e2 | e2
            · exact e2
            · omega)
          have HL2 : Hid (∀ q, (Value.slice (some ⟨ng, 0, none⟩) (k + 1) ncap).ownBlock = some q → (Value.slice aO n aC).ownBlock = some q ∨ Y.heap.size ≤ q) := fun q hq => by
            have e1 : ng = q := by simpa [Value.ownBlock] using hq
            subst e1
            rcases hng with e2 | e2
            · exact HL.out _ e2
            · right; rw [e2]; exact Nat.le_trans HF.out.size HBA.out.size
          clear ho hg3 hng HX HF HL HBA HC0 HWA HGB HXA HSZ
          go_wp2
          go_roundg (9 - (j + 1))
          case measure => omega
          case rel => exact ⟨j + 1, k + 1, _, _, rfl, by first | rfl | go_num, by have := HKJ.out; omega, by omega, Nat.le_refl _, HX2, HF2, HL2⟩
        · have hljz : ¬ (j : Int) < 9 := by omega
          have hkz : ((k : Int) == (n : Int) + 9) = true := by simp; omega
          have HBF : Hid (Below y2.heap.size y2 wr) := HBY.out.trans (HF.out.below HBY.out.size (fun q e => (HA3L.out q e).1))
          have HVF : Hid (OE y3.heap.size wr (.slice bO n bC) (edA P)) := HVY.out.of_blocks fun q hq => HF.out.block q (HVY.out.lt q hq).2 (fun e => by have := (HVY.out.lt q hq).1; have := (HA3L.out q e).2; omega)
          have CC : Hid _ := HED.out wr HBF.out
          clear HX HL HF HVY HBY HA3L hg2 hj9 hk
          go_wp2_with fail
          refine Calls.mono CC.out ?_
          rintro e z0 ⟨cv, rfl, hv1, hv2⟩
          have HCv : Hid (OE wr.heap.size z0 cv (edA P)) := hv1
          have HB0 : Hid (Below y2.heap.size y2 z0) := bstepB HBF.out hv2
          have HV0 : Hid (OE y3.heap.size z0 (.slice bO n bC) (edA P)) := HVF.out.below hv2
          obtain ⟨cO, cC, hcv, -, -⟩ := hv1.sl
          obtain ⟨cn, hcn⟩ : ∃ cn, cn = (edA P).length := ⟨_, rfl⟩
          rw [← hcn] at hcv
          subst hcv
          clear CC hv1 hv2 HVF HBF hcn
          have CE : Hid _ := HEI.out z0 _ HV0.out.re
          go_wp2_with fail
          refine Calls.mono CE.out ?_
          rintro e z1 ⟨t1, rfl, hz1, hz2⟩
          have HS1 : Hid (RG (Value.int .i64) z1 t1 (edI (edA P))) := hz1.rg
          have HB1 : Hid (Below y2.heap.size y2 z1) := bstepB HB0.out hz2
          have HC1 : Hid (OE wr.heap.size z1 (.slice cO cn cC) (edA P)) := HCv.out.below hz2
          clear CE hz1 hz2 HV0 HB0 HCv
          have CE : Hid _ := HEI.out z1 _ (HW2.out.below HB1.out).re
          go_wp2_with fail
          refine Calls.mono CE.out ?_
          rintro e z2 ⟨t2, rfl, hz1, hz2⟩
          have CS : Hid _ := sameT t1 t2 _ z2 (HS1.out.below (Nat.le_refl _) hz2) hz1.rg
          have HB2' : Hid (Below y2.heap.size y2 z2) := bstepB HB1.out hz2
          have HC2 : Hid (OE wr.heap.size z2 (.slice cO cn cC) (edA P)) := HC1.out.below hz2
          clear CE hz1 hz2 HS1 HC1 HB1
          go_wp2_with fail
          refine Calls.mono CS.out ?_
          rintro e z3 ⟨rfl, hz2⟩
          have HB3 : Hid (Below y2.heap.size y2 z3) := bstepB HB2'.out hz2
          have HC3 : Hid (OE wr.heap.size z3 (.slice cO cn cC) (edA P)) := HC2.out.below hz2
          clear CS hz2 HC2 HB2'
          have CE : Hid _ := HEI.out z3 _ HC3.out.re
          go_wp2_with fail
          refine Calls.mono CE.out ?_
          rintro e z4 ⟨t3, rfl, hz1, hz2⟩
          have HS1 : Hid (RG (Value.int .i64) z4 t3 (edI (edA P))) := hz1.rg
          have HB4 : Hid (Below y2.heap.size y2 z4) := bstepB HB3.out hz2
          clear CE hz1 hz2 HC3 HB3
          have CE : Hid _ := HEI.out z4 _ (HW2.out.below HB4.out).re
          go_wp2_with fail
          refine Calls.mono CE.out ?_
          rintro e z5 ⟨t4, rfl, hz1, hz2⟩
          have CS : Hid _ := sameT t3 t4 _ z5 (HS1.out.below (Nat.le_refl _) hz2) hz1.rg
          have HB5 : Hid (Below y2.heap.size y2 z5) := bstepB HB4.out hz2
          clear CE hz1 hz2 HS1 HB4
          go_wp2_with fail
          refine Calls.mono CS.out ?_
          rintro e z6 ⟨rfl, hz2⟩
          have HB6 : Hid (Below y2.heap.size y2 z6) := bstepB HB5.out hz2
          clear CS hz2 HB5
          have CK : Hid _ := HKP.out z6 HB6.out
          go_wp2_with fail
          refine Calls.mono CK.out ?_
          rintro e z7 ⟨rfl, hz2⟩
          have HB7 : Hid (Below w.heap.size w z7) := HB2.out.trans ((bstepB HB6.out hz2).mono HB2.out.size)
          clear CK hz2 HB6
          go_wp2
          go_ret
          exact ⟨rfl, HB7.out⟩
end Go.Proofs.Ytpokgdepopcppaa
