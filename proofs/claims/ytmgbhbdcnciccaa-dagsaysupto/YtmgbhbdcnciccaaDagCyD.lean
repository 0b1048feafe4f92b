/-
  Proved here: package dag's Cycle.
-/
import Derived.Test.YtmgbhbdcnciccaaDagCyC
import Derived.Test.YtmgbhbdcnciccaaDagRAll
namespace Go.Proofs.Ytmgbhbdcnciccaa
set_option linter.unusedVariables false
open Go.RowKit
/-- One point more: what is out, the best way so far, how many points a better one may have. -/
noncomputable def cyStep (P : List (List Int)) (st : List Int × List Int × Nat) (k : Nat) : List Int × List Int × Nat :=
  if (k : Int) ∈ st.1 then st else
    (outF P (P.length - (st.1 ++ [(k : Int)]).length) (st.1 ++ [(k : Int)]), (bkF P st.1 k st.2.2).getD st.2.1, match bkF P st.1 k st.2.2 with | some c => c.length - 1 | none => st.2.2)
noncomputable def cySt (P : List (List Int)) (k : Nat) : List Int × List Int × Nat := (List.range k).foldl (cyStep P) (outL P, [], P.length)
theorem cySt_succ (P : List (List Int)) (k : Nat) : cySt P (k + 1) = cyStep P (cySt P k) k := by
  unfold cySt
  rw [List.range_succ, List.foldl_append]; rfl
/-- What Cycle answers. -/
noncomputable def cyL (P : List (List Int)) : List Int := if ckE P = 42 then (cySt P P.length).2.1 else []
theorem bkF_len {P : List (List Int)} {T : List Int} {s most : Nat} {c : List Int} (h : bkF P T s most = some c) : 1 ≤ c.length ∧ c.length ≤ most := by
  unfold bkF at h
  split at h
  · rename_i hh
    have h1 := (Classical.choose_spec hh).1.1
    have h2 := (Classical.choose_spec hh).2
    simp only [Option.some.injEq] at h
    rw [← h, List.length_cons, wyF_len]
    omega
  · exact absurd h (by simp)
theorem ck_42 {P : List (List Int)} (h : ckE P = 42) : clE P = 0 := by
  unfold ckE at h
  split at h
  · assumption
  · unfold clE at h
    split at h
    · simp at h
    · split at h <;> simp at h
theorem RtC.shun {B B' : Nat} {S : Nat → Prop} {w : World} {rb : Nat} {a v u : Value} {g go gw n : Nat} {cvs : List Value} {C : Nat → List Int} {Ob : List Bool} {Wt L zs : List Int} (h : RtC B S w rb a v g go gw n cvs C Ob Wt L) (ho : OG (Value.int .i64) B' 3 w u zs) (hap : ∀ q, u.ownBlock = some q → v.ownBlock ≠ some q ∧ q ≠ gw) : ∀ q, u.ownBlock = some q → ¬ RtS rb go gw v q := by
  intro q hq e
  rcases e with e | e | e | e
  · exact ho.neT h.ln.box (by decide) (by rw [hq, e])
  · exact ho.neO h.out (by decide) hq (by rw [e]; rfl)
  · exact (hap q hq).2 e
  · exact (hap q hq).1 e
set_option maxRecDepth 100000 in
set_option maxHeartbeats 12800000 in
theorem cycleD (pv : Value) (pvs : List Value) (P : List (List Int)) (w : World) (h : RRD w pv pvs P) (n : Nat) (hn : P.length = n) (hb : n ≤ 100000) (hbl : ∀ i, (P.getD i []).length ≤ 100000) :
    Calls Try.prog 20 #[pv] w fun e w' => ∃ tv, e = .returned tv ∧ OG (Value.int .i64) w.heap.size 3 w' tv (cyL P) ∧ Below w.heap.size w w' := by
  have CC : Hid _ := checkD pv pvs P w h n hn hb hbl
  obtain ⟨po, pn, pc, rfl⟩ : ∃ o n c, pv = .slice o n c := by obtain ⟨ao, cap, e⟩ := h.out.sl; exact ⟨_, _, _, e⟩
  obtain rfl : pn = n := by rw [← hn, ← h.len, h.out.len]
  have HR : Hid (RRD w (.slice po pn pc) pvs P) := h
  have HN : Hid (P.length = pn) := hn
  have HBL : Hid (∀ i, (P.getD i []).length ≤ 100000) := hbl
  clear h hn hbl
  go_enter Try.func20, Try.ntmps20
  go_wp2_with fail
  refine Calls.mono CC.out ?_
  rintro e y ⟨rfl, hy⟩
  have HB : Hid (Below w.heap.size w y) := hy
  clear CC hy
  by_cases h0 : ckE P = 42
  · have hz := cl_zero (ck_42 h0)
    have hP := outs_no hz.1
    have hnd := twices_no hz.2
    have CR : Hid _ := restOfD _ pvs P y (HR.out.below (Nat.le_refl _) HB.out) hP hnd pn HN.out hb HBL.out
    have HND : Hid (∀ i, (P.getD i []).Nodup) := hnd
    have HWF : Hid (WfP P) := hP
    have HCY : Hid (cyL P = (cySt P pn).2.1) := by show _ = _; unfold cyL; rw [if_pos h0, HN.out]
    rw [h0]
    clear hz hP hnd h0
    go_wp2_with fail
    refine Calls.mono CR.out ?_
    rintro e z ⟨rb, rfl, S, v, g, go, gw, cvs, Ob, Wt, L, hz1, hz2, hz3, hz4, hz5⟩
    have CD : Hid _ := drainG y.heap.size S z rb _ v g go gw pn cvs P Ob Wt L [] hz1 hz5.size HN.out hb HBL.out HND.out hz2 hz3 hz4 ⟨List.nodup_nil, by simp⟩
    have HYZ : Hid (y.heap.size ≤ z.heap.size) := hz5.size
    have HB2 : Hid (Below w.heap.size w z) := bstepB HB.out hz5
    have HWY : Hid (w.heap.size ≤ y.heap.size) := HB.out.size
    have HF0 := hz1.frw
    have HBR : Hid (y.heap.size ≤ rb ∧ y.heap.size ≤ go ∧ y.heap.size ≤ gw ∧ ∀ q, v.ownBlock = some q → y.heap.size ≤ q) := ⟨hz1.hB, HF0.1, HF0.2.1, HF0.2.2⟩
    clear CR hz1 hz2 hz3 hz4 hz5 HB HF0
    go_wp2_with fail
    refine Calls.mono CD.out ?_
    clear CD
    rintro e x ⟨tv, T1, S1, v1, Ob1, Wt1, L1, rfl, hT1, -, -, hx1, hx2, hx3, hx4, hx5, hx6, hx7, -⟩
    have HBX : Hid (Below w.heap.size w x) := HB2.out.trans (hx7.below HB2.out.size (fun q hq => by
      have h2 := HWY.out
      rcases hq with e | e | e | e
      · rw [e]; exact Nat.le_trans h2 HBR.out.1
      · rw [e]; exact Nat.le_trans h2 HBR.out.2.1
      · rw [e]; exact Nat.le_trans h2 HBR.out.2.2.1
      · exact Nat.le_trans h2 (HBR.out.2.2.2 q e)))
    have HX1 : Hid (RtC y.heap.size S x rb (.slice po pn pc) v1 g go gw pn cvs (fun j => chF P j pn) Ob1 Wt1 L1) := hx1
    have HX2 : Hid (ObR pn T1 Ob1) := hx2
    have HX3 : Hid (WtR P T1 [] Wt1) := hx3
    have HX4 : Hid (LnOk pn L1 (rdy P T1)) := hx4
    have HX5 : Hid (Pts pn T1) := hx5
    have HX6 : Hid (∀ i, i < pn → ¬ rdy P T1 i) := hx6
    have HX8 : Hid (cySt P 0 = (T1, [], pn)) := by
      show _ = _
      rw [hT1]; unfold cySt outL; rw [HN.out]; rfl
    have HYX : Hid (y.heap.size ≤ x.heap.size) := Nat.le_trans HYZ.out hx7.size
    clear hx1 hx2 hx3 hx4 hx5 hx6 hx7 hT1 HB2
    go_wp2
    go_loopg [3, 4, 6, 7, 19] pn (fun g1 v3 v4 _v6 _v7 v19 wr => ∃ (k : Nat) (T best : List Int) (most : Nat) (v' : Value) (Ob' : List Bool) (Wt' L' : List Int) (bo : Option Addr) (bn bc : Nat), v3 = .slice bo bn bc ∧ v4 = .int .i64 (most : Int) ∧ v19 = .int .i64 k ∧ k ≤ pn ∧ pn - k ≤ g1 ∧ most ≤ pn ∧ Hid (cySt P k = (T, best, most)) ∧ Hid (RtC y.heap.size S wr rb (.slice po pn pc) v' g go gw pn cvs (fun j => chF P j pn) Ob' Wt' L') ∧ Hid (ObR pn T Ob') ∧ Hid (WtR P T [] Wt') ∧ Hid (LnOk pn L' (rdy P T)) ∧ Hid (Pts pn T) ∧ Hid (∀ i, i < pn → ¬ rdy P T i) ∧ Hid (OG (Value.int .i64) w.heap.size 3 wr (.slice bo bn bc) best) ∧ Hid (Below w.heap.size w wr) ∧ Hid (y.heap.size ≤ wr.heap.size) ∧ Hid (∀ q, (Value.slice bo bn bc).ownBlock = some q → v'.ownBlock ≠ some q ∧ q ≠ gw))
    case atStart => exact ⟨0, T1, [], pn, v1, Ob1, Wt1, L1, none, 0, 0, rfl, rfl, rfl, by omega, by omega, Nat.le_refl _, HX8, HX1, HX2, HX3, HX4, HX5, HX6, OG.nil _ _ _, HBX, HYX, by intro q hq; simp [Value.ownBlock] at hq⟩
    case round =>
      clear HBX HX1 HX2 HX3 HX4 HX5 HX6 HX8 HYX
      obtain ⟨k, T, best, most, v', Ob', Wt', L', bo, bn, bc, rfl, rfl, rfl, hkn, hg1, hmost, HST, HRW, HO, HW, HL, HPT, HNR, HOB0, HB0, HYS, HAP0⟩ := hrel
      by_cases hlt : k < pn
      · have hltz : (k : Int) < (pn : Int) := by omega
        obtain ⟨d1, d2, d3, d4⟩ := HRW.out.ln.box.cells
        obtain ⟨ho1, ho2⟩ := HRW.out.out.cell (HO.out k hlt)
        by_cases hkT : (k : Int) ∈ T
        · rw [decide_eq_true hkT] at ho1
          have HST2 : Hid (cySt P (k + 1) = (T, best, most)) := by show _ = _; rw [cySt_succ, HST.out]; unfold cyStep; rw [if_pos hkT]
          go_wp2
          clear ho1 ho2 d1 d2 d3 d4
          go_roundg (pn - (k + 1))
          case measure => omega
          case rel => exact ⟨k + 1, T, best, most, v', Ob', Wt', L', _, _, _, rfl, rfl, by first | rfl | go_num, by omega, Nat.le_refl _, hmost, HST2, HRW, HO, HW, HL, HPT, HNR, HOB0, HB0, HYS, HAP0⟩
        · rw [decide_eq_false hkT] at ho1
          have HLT : Hid (LnOk pn L' (fun i => rdy P T i ∧ i ≠ k)) := HL.out.congr fun i hi => ⟨fun h => ⟨h, fun e => HNR.out i hi h⟩, fun h => h.1⟩
          have CB : Hid _ := backD y.heap.size S wr rb _ v' g go gw pn cvs pvs P Ob' Wt' L' T k most HRW.out (HR.out.below (Nat.le_refl _) HB0.out) HN.out hb HO.out hlt hkT HWF.out (by omega)
          go_wp2_with fail
          refine Calls.mono CB.out ?_
          clear CB
          rintro e W1 ⟨tv, rfl, hsome, hnone, hbw⟩
          have HBW : Hid (Below wr.heap.size wr W1) := hbw
          have HRW1 : Hid (RtC y.heap.size S W1 rb (.slice po pn pc) v' g go gw pn cvs (fun j => chF P j pn) Ob' Wt' L') := HRW.out.belowD hbw
          have HB1 : Hid (Below w.heap.size w W1) := HB0.out.trans (hbw.mono HB0.out.size)
          clear ho1 ho2 d1 d2 d3 d4 HL HNR hbw
          rcases hbk : bkF P T k most with _ | c
          · have HBK : Hid (bkF P T k most = none) := hbk
            obtain rfl := hnone hbk
            have HOB : Hid (OG (Value.int .i64) w.heap.size 3 W1 (.slice bo bn bc) best) := HOB0.out.below HBW.out
            have HAP1 : Hid (∀ q, (Value.slice bo bn bc).ownBlock = some q → v'.ownBlock ≠ some q ∧ q ≠ gw) := HAP0.out
            clear hsome hnone hbk HOB0 HAP0 HRW HB0
            have CT : Hid _ := takeG y.heap.size S W1 rb _ v' g go gw pn cvs P Ob' Wt' L' T k HRW1.out (Nat.le_trans HYS.out HBW.out.size) HN.out hb HBL.out HND.out hlt hkT HO.out HW.out HLT.out
            go_wp2_with fail
            refine Calls.mono CT.out ?_
            clear CT
            rintro e W2 ⟨rfl, v2, Ob2, Wt2, L2, t1, t2, t3, t4, t5, t6⟩
            have HAP2 : Hid (∀ q, (Value.slice bo bn bc).ownBlock = some q → v2.ownBlock ≠ some q ∧ q ≠ gw) := fun q hq => ⟨fun e => by
              rcases t6 q e with e2 | e2
              · exact (HAP1.out q hq).1 e2
              · have := (HOB.out.lt q hq).2; omega, (HAP1.out q hq).2⟩
            have HOB2 : Hid (OG (Value.int .i64) w.heap.size 3 W2 (Value.slice bo bn bc) best) := HOB.out.of_blocks fun q hq => t5.block q (HOB.out.lt q hq).2 (HRW1.out.shun HOB.out HAP1.out q hq)
            have HBV : ∀ q, RtS rb go gw v' q → w.heap.size ≤ q := fun q hq => by
              have h1 := HRW1.out.frw
              have h2 := HWY.out
              have h3 := HRW1.out.hB
              rcases hq with e | e | e | e
              · rw [e]; exact Nat.le_trans h2 h3
              · rw [e]; exact Nat.le_trans h2 h1.1
              · rw [e]; exact Nat.le_trans h2 h1.2.1
              · exact Nat.le_trans h2 (h1.2.2 q e)
            have HB2 : Hid (Below w.heap.size w W2) := HB1.out.trans (t5.below HB1.out.size HBV)
            have HRW2 : Hid (RtC y.heap.size S W2 rb (.slice po pn pc) v2 g go gw pn cvs (fun j => chF P j pn) Ob2 Wt2 L2) := t1
            have HYS2 : Hid (y.heap.size ≤ W2.heap.size) := Nat.le_trans (Nat.le_trans HYS.out HBW.out.size) t5.size
            have CD : Hid _ := drainG y.heap.size S W2 rb _ v2 g go gw pn cvs P Ob2 Wt2 L2 (T ++ [(k : Int)]) t1 HYS2.out HN.out hb HBL.out HND.out t2 t3 t4 (HPT.out.snoc hlt hkT)
            clear t1 t2 t3 t4 t5 t6 HBV HOB HAP1 HB1 HRW1 HO HW HLT
            go_wp2_with fail
            refine Calls.mono CD.out ?_
            clear CD
            rintro e W3 ⟨tv3, T3, S3, v3, Ob3, Wt3, L3, rfl, hT3, -, -, g1, g2, g3, g4, g5, g6, g7, g8⟩
            have HAP3 : Hid (∀ q, (Value.slice bo bn bc).ownBlock = some q → v3.ownBlock ≠ some q ∧ q ≠ gw) := fun q hq => ⟨fun e => by
              rcases g8 q e with e2 | e2
              · exact (HAP2.out q hq).1 e2
              · have := (HOB2.out.lt q hq).2; omega, (HAP2.out q hq).2⟩
            have HOB3 : Hid (OG (Value.int .i64) w.heap.size 3 W3 (Value.slice bo bn bc) best) := HOB2.out.of_blocks fun q hq => g7.block q (HOB2.out.lt q hq).2 (HRW2.out.shun HOB2.out HAP2.out q hq)
            have HBV : ∀ q, RtS rb go gw v2 q → w.heap.size ≤ q := fun q hq => by
              have h1 := HRW2.out.frw
              have h2 := HWY.out
              have h3 := HRW2.out.hB
              rcases hq with e | e | e | e
              · rw [e]; exact Nat.le_trans h2 h3
              · rw [e]; exact Nat.le_trans h2 h1.1
              · rw [e]; exact Nat.le_trans h2 h1.2.1
              · exact Nat.le_trans h2 (h1.2.2 q e)
            have HB3 : Hid (Below w.heap.size w W3) := HB2.out.trans (g7.below HB2.out.size HBV)
            have HYS3 : Hid (y.heap.size ≤ W3.heap.size) := Nat.le_trans HYS2.out g7.size
            have HST3 : Hid (cySt P (k + 1) = (T3, best, most)) := by
              show _ = _
              rw [cySt_succ, HST.out]
              unfold cyStep
              rw [if_neg hkT, hT3, HN.out, HBK.out]
              rfl
            have HRW3 : Hid (RtC y.heap.size S W3 rb (.slice po pn pc) v3 g go gw pn cvs (fun j => chF P j pn) Ob3 Wt3 L3) := g1
            have HO3 : Hid (ObR pn T3 Ob3) := g2
            have HW3 : Hid (WtR P T3 [] Wt3) := g3
            have HL3 : Hid (LnOk pn L3 (rdy P T3)) := g4
            have HPT3 : Hid (Pts pn T3) := g5
            have HNR3 : Hid (∀ i, i < pn → ¬ rdy P T3 i) := g6
            clear g1 g2 g3 g4 g5 g6 g7 g8 hT3 HBV HOB2 HAP2 HB2 HRW2 HYS2 HST HBK HPT HBW
            go_wp2
            go_roundg (pn - (k + 1))
            case measure => omega
            case rel => exact ⟨k + 1, T3, best, most, v3, Ob3, Wt3, L3, _, _, _, rfl, by first | rfl | go_num, by first | rfl | go_num, by omega, Nat.le_refl _, by omega, HST3, HRW3, HO3, HW3, HL3, HPT3, HNR3, HOB3, HB3, HYS3, HAP3⟩
          · have HBK : Hid (bkF P T k most = some c) := hbk
            have hcl := bkF_len hbk
            have hoc := hsome c hbk
            obtain ⟨ao, cap, e1, e2, _⟩ := hoc.sl
            obtain ⟨gb, _, rfl⟩ := e2 (by omega)
            subst e1
            have HAP1 : Hid (∀ q, (Value.slice (some ⟨gb, 0, none⟩) c.length cap).ownBlock = some q → v'.ownBlock ≠ some q ∧ q ≠ gw) := fun q hq => by
              have h1 := (hoc.lt q hq).1
              exact ⟨fun e => by have := (HRW.out.ln.row.lt q e).2; omega, fun e => by have := (HRW.out.wts.lt gw rfl).2; omega⟩
            have HOB : Hid (OG (Value.int .i64) w.heap.size 3 W1 (.slice (some ⟨gb, 0, none⟩) c.length cap) c) := hoc.mono HB0.out.size
            have hcw : IntKind.i64.wrap ((c.length : Int) - 1) = ((c.length - 1 : Nat) : Int) := by rw [IntKind.wrap_i64]; omega
            clear hsome hnone hbk HOB0 HAP0 HRW HB0 hoc
            have CT : Hid _ := takeG y.heap.size S W1 rb _ v' g go gw pn cvs P Ob' Wt' L' T k HRW1.out (Nat.le_trans HYS.out HBW.out.size) HN.out hb HBL.out HND.out hlt hkT HO.out HW.out HLT.out
            go_wp2_with fail
            refine Calls.mono CT.out ?_
            clear CT
            rintro e W2 ⟨rfl, v2, Ob2, Wt2, L2, t1, t2, t3, t4, t5, t6⟩
            have HAP2 : Hid (∀ q, (Value.slice (some ⟨gb, 0, none⟩) c.length cap).ownBlock = some q → v2.ownBlock ≠ some q ∧ q ≠ gw) := fun q hq => ⟨fun e => by
              rcases t6 q e with e2 | e2
              · exact (HAP1.out q hq).1 e2
              · have := (HOB.out.lt q hq).2; omega, (HAP1.out q hq).2⟩
            have HOB2 : Hid (OG (Value.int .i64) w.heap.size 3 W2 (Value.slice (some ⟨gb, 0, none⟩) c.length cap) c) := HOB.out.of_blocks fun q hq => t5.block q (HOB.out.lt q hq).2 (HRW1.out.shun HOB.out HAP1.out q hq)
            have HBV : ∀ q, RtS rb go gw v' q → w.heap.size ≤ q := fun q hq => by
              have h1 := HRW1.out.frw
              have h2 := HWY.out
              have h3 := HRW1.out.hB
              rcases hq with e | e | e | e
              · rw [e]; exact Nat.le_trans h2 h3
              · rw [e]; exact Nat.le_trans h2 h1.1
              · rw [e]; exact Nat.le_trans h2 h1.2.1
              · exact Nat.le_trans h2 (h1.2.2 q e)
            have HB2 : Hid (Below w.heap.size w W2) := HB1.out.trans (t5.below HB1.out.size HBV)
            have HRW2 : Hid (RtC y.heap.size S W2 rb (.slice po pn pc) v2 g go gw pn cvs (fun j => chF P j pn) Ob2 Wt2 L2) := t1
            have HYS2 : Hid (y.heap.size ≤ W2.heap.size) := Nat.le_trans (Nat.le_trans HYS.out HBW.out.size) t5.size
            have CD : Hid _ := drainG y.heap.size S W2 rb _ v2 g go gw pn cvs P Ob2 Wt2 L2 (T ++ [(k : Int)]) t1 HYS2.out HN.out hb HBL.out HND.out t2 t3 t4 (HPT.out.snoc hlt hkT)
            clear t1 t2 t3 t4 t5 t6 HBV HOB HAP1 HB1 HRW1 HO HW HLT
            go_wp2_with fail
            refine Calls.mono CD.out ?_
            clear CD
            rintro e W3 ⟨tv3, T3, S3, v3, Ob3, Wt3, L3, rfl, hT3, -, -, g1, g2, g3, g4, g5, g6, g7, g8⟩
            have HAP3 : Hid (∀ q, (Value.slice (some ⟨gb, 0, none⟩) c.length cap).ownBlock = some q → v3.ownBlock ≠ some q ∧ q ≠ gw) := fun q hq => ⟨fun e => by
              rcases g8 q e with e2 | e2
              · exact (HAP2.out q hq).1 e2
              · have := (HOB2.out.lt q hq).2; omega, (HAP2.out q hq).2⟩
            have HOB3 : Hid (OG (Value.int .i64) w.heap.size 3 W3 (Value.slice (some ⟨gb, 0, none⟩) c.length cap) c) := HOB2.out.of_blocks fun q hq => g7.block q (HOB2.out.lt q hq).2 (HRW2.out.shun HOB2.out HAP2.out q hq)
            have HBV : ∀ q, RtS rb go gw v2 q → w.heap.size ≤ q := fun q hq => by
              have h1 := HRW2.out.frw
              have h2 := HWY.out
              have h3 := HRW2.out.hB
              rcases hq with e | e | e | e
              · rw [e]; exact Nat.le_trans h2 h3
              · rw [e]; exact Nat.le_trans h2 h1.1
              · rw [e]; exact Nat.le_trans h2 h1.2.1
              · exact Nat.le_trans h2 (h1.2.2 q e)
            have HB3 : Hid (Below w.heap.size w W3) := HB2.out.trans (g7.below HB2.out.size HBV)
            have HYS3 : Hid (y.heap.size ≤ W3.heap.size) := Nat.le_trans HYS2.out g7.size
            have HST3 : Hid (cySt P (k + 1) = (T3, c, (c.length - 1))) := by
              show _ = _
              rw [cySt_succ, HST.out]
              unfold cyStep
              rw [if_neg hkT, hT3, HN.out, HBK.out]
              rfl
            have HRW3 : Hid (RtC y.heap.size S W3 rb (.slice po pn pc) v3 g go gw pn cvs (fun j => chF P j pn) Ob3 Wt3 L3) := g1
            have HO3 : Hid (ObR pn T3 Ob3) := g2
            have HW3 : Hid (WtR P T3 [] Wt3) := g3
            have HL3 : Hid (LnOk pn L3 (rdy P T3)) := g4
            have HPT3 : Hid (Pts pn T3) := g5
            have HNR3 : Hid (∀ i, i < pn → ¬ rdy P T3 i) := g6
            clear g1 g2 g3 g4 g5 g6 g7 g8 hT3 HBV HOB2 HAP2 HB2 HRW2 HYS2 HST HBK HPT HBW
            go_wp2
            go_roundg (pn - (k + 1))
            case measure => omega
            case rel => exact ⟨k + 1, T3, c, (c.length - 1), v3, Ob3, Wt3, L3, _, _, _, rfl, by first | rfl | go_num, by first | rfl | go_num, by omega, Nat.le_refl _, by omega, HST3, HRW3, HO3, HW3, HL3, HPT3, HNR3, HOB3, HB3, HYS3, HAP3⟩
      · have hltz : ¬ (k : Int) < (pn : Int) := by omega
        have hkp : k = pn := by omega
        have HE : Hid (cyL P = best) := by show _ = _; rw [HCY.out, ← hkp, HST.out]
        clear HST
        go_wp2
        go_ret
        exact ⟨_, rfl, by rw [HE.out]; exact HOB0.out, HB0.out⟩
  · have h0z : ((ckE P : Int) != 42) = true := by simpa using h0
    have HCY : Hid (cyL P = []) := by show _ = _; unfold cyL; rw [if_neg h0]
    go_wp2
    go_ret
    exact ⟨_, rfl, by rw [HCY.out]; exact OG.nil _ _ _, HB.out⟩
end Go.Proofs.Ytmgbhbdcnciccaa
