/-
  Proved here: the law on a point's blanket, walked.
-/
import Derived.Test.YtcadljpdokhpmabGreatSpWm
import Derived.Test.YtcadljpdokhpmabGreatSpAnAll
import Derived.Test.YtcadljpdokhpmabGreatDagOpen2All
namespace Go.Proofs.YtcadljpdokhpmabGreat
set_option linter.unusedVariables false
open Go.RowKit Go.Shelf Go.Sort Go.Lib
theorem RG.none0 {w : World} (g o : Nat) : RG (Value.int .i64) w (.slice (some ⟨g, o, none⟩) 0 0) ([] : List Int) := ⟨_, 0, rfl, Nat.le_refl _, by unfold maxLen; omega, fun h => by simp at h, fun i x hi => by simp at hi⟩
set_option maxRecDepth 1000000 in
set_option maxHeartbeats 12800000 in
theorem sepWall_top (lv : Value) (lvs : List Value) (P0 : List (List Int)) (x : Int) (w : World) (hl : RRD w lv lvs P0) (hlb : ∀ i, (P0.getD i []).length ≤ 1048576) (hx : (Lit.int .i64 x).wf = true) :
    Calls Tryz.prog 4 #[lv, .int .i64 x] w fun e w' => e = .returned (.bool true) ∧ Below w.heap.size w w' := by
  obtain ⟨i0, hi, hz0, hz1, hz2⟩ := info_parts Tryz.infoI
  have CA : Hid _ := alive16 w
  have CM : Hid (∀ W, Below w.heap.size w W → Calls Tryz.prog 7 #[lv] W fun e w' => ∃ v vs P, e = .returned v ∧ P.length ≤ 30 ∧ MnI W.heap.size W w' P v vs) := fun W hW => mended16 lv lvs P0 W (hl.below (Nat.le_refl _) hW) hlb
  clear hl hlb hx
  go_enter Tryz.func4, Tryz.ntmps4
  go_wp2_with fail
  refine Calls.mono CA.out ?_
  rintro e y1 ⟨rfl, b1⟩
  have B1 : Hid (Below w.heap.size w y1) := b1
  have CM1 : Hid _ := CM.out y1 b1
  clear CA CM b1
  go_wp2_with fail
  refine Calls.mono CM1.out ?_
  rintro e y2 ⟨pv, pvs, P, rfl, hP30, hM⟩
  obtain ⟨po, pn, pc, rfl⟩ : ∃ o n c, pv = .slice o n c := by obtain ⟨ao, cap, e⟩ := hM.row.rg.sl; exact ⟨_, _, _, e⟩
  have hpn : P.length = pn := by rw [← hM.len]; exact hM.row.rg.len
  have hp30 : pn ≤ 30 := by omega
  have B2 : Hid (Below w.heap.size w y2) := bstepB B1.out hM.frm
  have HR2 : Hid (RRD y2 (.slice po pn pc) pvs P) := hM.rrd
  have HMN : Hid (∀ j, MnL j (P.getD j [])) := hM.mnd
  have HPN : Hid (P.length = pn) := hpn
  have HP30 : Hid (P.length ≤ 30) := hP30
  clear CM1 hM B1 hpn hP30
  by_cases h0 : pn = 0
  · subst h0
    go_wp2
    go_ret
    exact ⟨rfl, B2.out⟩
  · have h0z : ¬ ((pn : Int) = 0) := by omega
    obtain ⟨Wa, ha, ra, ba⟩ := lit1 y2 [x] (by simp)
    have HWA : Hid (Wa = y2.alloc (.cells #[.int .i64 x] 3)) := ha
    have CX : Hid _ := points16n _ [x] pn Wa ra (by simp) (by omega)
    have B3 : Hid (Below w.heap.size w Wa) := bstepB B2.out ba
    have HR3 : Hid (RRD Wa (.slice po pn pc) pvs P) := HR2.out.below (Nat.le_refl _) ba
    clear ha ra ba B2 HR2
    go_wp2_with fail
    rw [← HWA.out]
    refine Calls.mono CX.out ?_
    rintro e y3 ⟨av, M, rfl, hoa, pa, -, hMl, b3⟩
    obtain ⟨m, rfl⟩ : ∃ m, M = [m] := by
      have h1 := hMl (by omega)
      match M, h1 with
      | [m], _ => exact ⟨m, rfl⟩
    obtain ⟨a, rfl, han⟩ := pa m (by simp)
    obtain ⟨ao, ac, rfl, hao, -⟩ := hoa.sl
    obtain ⟨ga, -, rfl⟩ := hao (by simp)
    have HA3 : Hid (RG (Value.int .i64) y3 (.slice (some ⟨ga, 0, none⟩) 1 ac) [(a : Int)]) := hoa.rg
    have hca : y3.cell? ⟨ga, 0, none⟩ = some (.int .i64 (a : Int)) := by
      obtain ⟨z, g, o, hz, e, hc⟩ := HA3.out.at (i := 0) (by omega)
      simp only [List.getElem?_cons_zero, Option.some.injEq, Addr.mk.injEq, and_true] at hz e
      obtain ⟨rfl, rfl⟩ := e
      rw [hz]
      exact hc
    have haP : a < P.length := by rw [HPN.out]; exact han
    have B4 : Hid (Below w.heap.size w y3) := bstepB B3.out b3
    have HR4 : Hid (RRD y3 (.slice po pn pc) pvs P) := HR3.out.below (Nat.le_refl _) b3
    have HAP : Hid (a < P.length) := haP
    have CB : Hid _ := wallBl P HMN.out HP30.out a haP (.slice po pn pc) pvs y3 HR4.out
    clear CX hMl b3 HWA hoa hao B3 HR3 haP pa
    go_wp2_with fail
    refine Calls.mono CB.out ?_
    rintro e y4 ⟨bv, rfl, hob, b4⟩
    obtain ⟨B, hB⟩ : ∃ B, B = blR P P.length (a : Int) := ⟨_, rfl⟩
    rw [← hB] at hob
    obtain ⟨bo, bn, bc, rfl⟩ : ∃ o n c, bv = .slice o n c := by obtain ⟨ao, cap, e⟩ := hob.rg.sl; exact ⟨_, _, _, e⟩
    have hbn : B.length = bn := hob.rg.len
    have hb30 : bn ≤ 30 := by
      have := len_nd _ _ ((bl_rise (P := P) (a : Int)).imp (fun h e => by omega)) (bl_pts HMN.out HAP.out)
      rw [← hB] at this
      have := HP30.out
      omega
    have hcb : y4.cell? ⟨ga, 0, none⟩ = some (.int .i64 (a : Int)) := keepR b4 hca
    have HB4 : Hid (RG (Value.int .i64) y4 (.slice bo bn bc) B) := hob.rg
    have HBR : Hid (B = blR P P.length (a : Int)) := hB
    have HA4 : Hid (RG (Value.int .i64) y4 (.slice (some ⟨ga, 0, none⟩) 1 ac) [(a : Int)]) := HA3.out.below (Nat.le_refl _) b4
    have HR5 : Hid (RRD y4 (.slice po pn pc) pvs P) := HR4.out.below (Nat.le_refl _) b4
    have B5 : Hid (Below w.heap.size w y4) := bstepB B4.out b4
    have HBN : Hid (B.length = bn) := hbn
    have CH : Hid _ := has16 (.slice bo bn bc) B (a : Int) y4 HB4.out
    have HNO : Hid (decide ((a : Int) ∈ B) = false) := decide_eq_false (by rw [hB]; exact fun hc => ((bl_mem HMN.out HAP.out _).1 hc).1 rfl)
    have CR : Hid _ := wallRe P HMN.out HP30.out a HAP.out (.slice po pn pc) (.slice (some ⟨ga, 0, none⟩) 1 ac) (.slice bo bn bc) pvs y4 HR5.out HA4.out (by rw [← hB]; exact HB4.out)
    clear CB hob b4 hB hbn hca HA3 HR4 B4
    go_wp2_with fail
    refine Calls.mono CH.out ?_
    rintro e _ ⟨rfl, rfl⟩
    rw [HNO.out]
    clear CH HNO hcb
    go_wp2_with fail
    refine Calls.mono CR.out ?_
    rintro e y5 ⟨rv, rfl, hrv, b5⟩
    have HA5 : Hid (RG (Value.int .i64) y5 (.slice (some ⟨ga, 0, none⟩) 1 ac) [(a : Int)]) := HA4.out.below (Nat.le_refl _) b5
    have HR6 : Hid (RRD y5 (.slice po pn pc) pvs P) := HR5.out.below (Nat.le_refl _) b5
    have HB5 : Hid (RG (Value.int .i64) y5 (.slice bo bn bc) B) := HB4.out.below (Nat.le_refl _) b5
    have B6 : Hid (Below w.heap.size w y5) := bstepB B5.out b5
    have CS : Hid _ := same1 rv (.slice (some ⟨ga, 0, none⟩) 1 ac) [(a : Int)] y5 hrv.rg HA5.out
    clear CR hrv b5 HA4 HR5 HB4 B5
    go_wp2_with fail
    refine Calls.mono CS.out ?_
    rintro e y6 ⟨rfl, b6⟩
    have HA6 : Hid (RG (Value.int .i64) y6 (.slice (some ⟨ga, 0, none⟩) 1 ac) [(a : Int)]) := HA5.out.below (Nat.le_refl _) b6
    have HR7 : Hid (RRD y6 (.slice po pn pc) pvs P) := HR6.out.below (Nat.le_refl _) b6
    have HB6 : Hid (RG (Value.int .i64) y6 (.slice bo bn bc) B) := HB5.out.below (Nat.le_refl _) b6
    have B7 : Hid (Below w.heap.size w y6) := bstepB B6.out b6
    clear CS b6 HA5 HR6 HB5 B6
    go_wp2_with fail
    go_loopg [13, 14, 15, 16] bn (fun g1 v13 _v14 _v15 _v16 wr => ∃ i : Nat, v13 = .int .i64 i ∧ i ≤ bn ∧ bn - i ≤ g1 ∧ Hid (Below y6.heap.size y6 wr))
    case atStart => exact ⟨0, rfl, Nat.zero_le _, by omega, Below.refl _ _⟩
    case round =>
      obtain ⟨i, rfl, hib, hg1, DR⟩ := hrel
      by_cases hlt : i < bn
      · have hltz : (i : Int) < (bn : Int) := by omega
        obtain ⟨b, gb, ob, hb1, rfl, hb0⟩ := HB6.out.at hlt
        have hcap : bn ≤ bc := HB6.out.room.1
        have HB1 : Hid (B[i]? = some b) := hb1
        have HBW : Hid (RG (Value.int .i64) wr (.slice (some ⟨gb, ob, none⟩) bn bc) B) := HB6.out.below (Nat.le_refl _) DR.out
        have hi2 : i ≤ bc := by omega
        have HT : Hid (RG (Value.int .i64) wr (.slice (some ⟨gb, ob, none⟩) i bc) (B.take i)) := HBW.out.cut (by omega)
        have HTL : Hid ((B.take i).length ≤ 30) := by show _ ≤ _; rw [List.length_take, HBN.out]; omega
        have HDL : Hid ((B.drop (i + 1)).length ≤ 30) := by show _ ≤ _; rw [List.length_drop, HBN.out]; omega
        have HT0 : Hid True := trivial
        clear hb1 hb0
        by_cases hc : bc = i + 1
        · obtain rfl : bn = i + 1 := by omega
          subst hc
          have HO1 : Hid (RG (Value.int .i64) y6 (.slice (some ⟨gb, ob + i, none⟩) 1 1) [b]) := by have h := HB6.out.one HB1.out; have e : i + 1 - i = 1 := (by omega); rw [e] at h; exact h
          have HD : Hid (RG (Value.int .i64) wr (.slice (some ⟨gb, ob, none⟩) 0 0) (B.drop (i + 1))) := by show RG _ _ _ _; rw [List.drop_eq_nil_of_le (by rw [HBN.out]; omega)]; exact RG.none0 _ _
          clear HT0
          go_wp2_with (at_builtin; refine wpList_appG _ (fun _ => rfl) rfl _ _ 23 rfl wr.heap.size 3 i0 (.int .i64 0) 8 Tryz.underlying23 hi hz0 hz1 hz2 rfl _ _ [] (B.take i) rfl (OG.nil _ _ _) rfl HT.out (by have := HTL.out; unfold maxLen; simp only [List.length_nil]; omega) (by have := HTL.out; simp only [List.length_nil]; omega) (Nat.le_refl _) ?_)
          intro v1 w1 ho1 hg1
          have E1 : Hid (Below wr.heap.size wr w1) := (OG.nil (enc := Value.int .i64) wr.heap.size 3 wr).grown (Below.refl _ _) (Nat.le_refl _) hg1
          have O1 : Hid (OG (Value.int .i64) wr.heap.size 3 w1 v1 (B.take i)) := ho1
          have HD1 : Hid (RG (Value.int .i64) w1 (.slice (some ⟨gb, ob, none⟩) 0 0) (B.drop (i + 1))) := HD.out.below (Nat.le_refl _) E1.out
          clear ho1 hg1 HD HT
          go_wp2_with (at_builtin; refine wpList_appG _ (fun _ => rfl) rfl _ _ 23 rfl wr.heap.size 3 i0 (.int .i64 0) 8 Tryz.underlying23 hi hz0 hz1 hz2 rfl _ _ (B.take i) (B.drop (i + 1)) rfl O1.out rfl HD1.out (by have := HTL.out; have := HDL.out; unfold maxLen; omega) (by have := HTL.out; have := HDL.out; omega) E1.out.size ?_)
          intro v2 w2 ho2 hg2
          have E2 : Hid (Below wr.heap.size wr w2) := O1.out.grown E1.out E1.out.size hg2
          have O2 : Hid (OG (Value.int .i64) wr.heap.size 3 w2 v2 (B.take i ++ B.drop (i + 1))) := ho2
          have DW : Hid (Below y6.heap.size y6 w2) := bstepB DR.out E2.out
          have CP : Hid _ := wallAp P HMN.out HP30.out a HAP.out i b (by rw [← HBR.out]; exact HB1.out) (.slice po pn pc) (.slice (some ⟨ga, 0, none⟩) 1 ac) (.slice (some ⟨gb, ob + i, none⟩) 1 1) v2 pvs w2 (HR7.out.below (Nat.le_refl _) DW.out) (HA6.out.below (Nat.le_refl _) DW.out) (HO1.out.below (Nat.le_refl _) DW.out) (by rw [← HBR.out]; exact O2.out.rg)
          clear ho2 hg2 HD1 O1 E1
          go_wp2_with fail
          refine Calls.mono CP.out ?_
          rintro e w3 ⟨rfl, b3⟩
          have DF : Hid (Below y6.heap.size y6 w3) := bstepB DW.out b3
          clear CP b3 O2 E2 DW
          go_wp2
          go_roundg (i + 1 - (i + 1))
          case measure => omega
          case rel => exact ⟨i + 1, by go_num, by omega, Nat.le_refl _, DF⟩
        · have hc1 : i + 1 ≤ bn := by omega
          have hc2 : i + 1 ≤ bc := by omega
          have HD : Hid (RG (Value.int .i64) wr (.slice (some ⟨gb, ob + (i + 1), none⟩) (bn - (i + 1)) (bc - (i + 1))) (B.drop (i + 1))) := HBW.out.from (by omega)
          clear HT0
          go_wp2_with (at_builtin; refine wpList_appG _ (fun _ => rfl) rfl _ _ 23 rfl wr.heap.size 3 i0 (.int .i64 0) 8 Tryz.underlying23 hi hz0 hz1 hz2 rfl _ _ [] (B.take i) rfl (OG.nil _ _ _) rfl HT.out (by have := HTL.out; unfold maxLen; simp only [List.length_nil]; omega) (by have := HTL.out; simp only [List.length_nil]; omega) (Nat.le_refl _) ?_)
          intro v1 w1 ho1 hg1
          have E1 : Hid (Below wr.heap.size wr w1) := (OG.nil (enc := Value.int .i64) wr.heap.size 3 wr).grown (Below.refl _ _) (Nat.le_refl _) hg1
          have O1 : Hid (OG (Value.int .i64) wr.heap.size 3 w1 v1 (B.take i)) := ho1
          have HD1 : Hid (RG (Value.int .i64) w1 (.slice (some ⟨gb, ob + (i + 1), none⟩) (bn - (i + 1)) (bc - (i + 1))) (B.drop (i + 1))) := HD.out.below (Nat.le_refl _) E1.out
          clear ho1 hg1 HD HT
          go_wp2_with (at_builtin; refine wpList_appG _ (fun _ => rfl) rfl _ _ 23 rfl wr.heap.size 3 i0 (.int .i64 0) 8 Tryz.underlying23 hi hz0 hz1 hz2 rfl _ _ (B.take i) (B.drop (i + 1)) rfl O1.out rfl HD1.out (by have := HTL.out; have := HDL.out; unfold maxLen; omega) (by have := HTL.out; have := HDL.out; omega) E1.out.size ?_)
          intro v2 w2 ho2 hg2
          have E2 : Hid (Below wr.heap.size wr w2) := O1.out.grown E1.out E1.out.size hg2
          have O2 : Hid (OG (Value.int .i64) wr.heap.size 3 w2 v2 (B.take i ++ B.drop (i + 1))) := ho2
          have DW : Hid (Below y6.heap.size y6 w2) := bstepB DR.out E2.out
          have CP : Hid _ := wallAp P HMN.out HP30.out a HAP.out i b (by rw [← HBR.out]; exact HB1.out) (.slice po pn pc) (.slice (some ⟨ga, 0, none⟩) 1 ac) (.slice (some ⟨gb, ob + i, none⟩) 1 (bc - i)) v2 pvs w2 (HR7.out.below (Nat.le_refl _) DW.out) (HA6.out.below (Nat.le_refl _) DW.out) ((HB6.out.one HB1.out).below (Nat.le_refl _) DW.out) (by rw [← HBR.out]; exact O2.out.rg)
          clear ho2 hg2 HD1 O1 E1
          go_wp2_with fail
          refine Calls.mono CP.out ?_
          rintro e w3 ⟨rfl, b3⟩
          have DF : Hid (Below y6.heap.size y6 w3) := bstepB DW.out b3
          clear CP b3 O2 E2 DW
          go_wp2
          go_roundg (bn - (i + 1))
          case measure => omega
          case rel => exact ⟨i + 1, by go_num, by omega, Nat.le_refl _, DF⟩
      · have hltz : ¬ (i : Int) < (bn : Int) := by omega
        go_wp2
        go_ret
        exact ⟨rfl, bstepB B7.out DR.out⟩
end Go.Proofs.YtcadljpdokhpmabGreat
