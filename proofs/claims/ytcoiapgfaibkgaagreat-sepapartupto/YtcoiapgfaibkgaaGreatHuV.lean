/-
  Proved here: the hunt of layer 16: walk.
-/
import Derived.Test.YtcoiapgfaibkgaaGreatPrAAll
import Derived.Test.YtcoiapgfaibkgaaGreatPrWAll
namespace Go.Proofs.YtcoiapgfaibkgaaGreat
set_option linter.unusedVariables false
open Go.RowKit Go.Shelf Go.Sort Go.Lib
theorem vis_in {G : List Int} {tz : Int} {l : Nat} {r : List Int} {s : HuS} (h : (l : Int) ∈ G) : visX G tz ((l : Int) :: r) s = s := by
  simp only [visX]; rw [if_pos h]
theorem vis_ne {G : List Int} {tz : Int} {l : Nat} {r : List Int} {s : HuS} (h : (l : Int) ∉ G) (h2 : (l : Int) ≠ tz) : visX G tz ((l : Int) :: r) s = (s.1, fun v => if v = l then true else s.2 v) := by
  simp only [visX]; rw [if_neg h, if_neg (fun e => h2 e.1)]; rfl
theorem vis_first {G : List Int} {tz : Int} {l : Nat} {r : List Int} {s : HuS} (h : (l : Int) ∉ G) (h2 : (l : Int) = tz) (h3 : s.1 = none) : visX G tz ((l : Int) :: r) s = (some ((l : Int) :: r), fun v => if v = l then true else s.2 v) := by
  simp only [visX]; rw [if_neg h, if_pos ⟨h2, by rw [h3]⟩]; rfl
theorem vis_less {G : List Int} {tz : Int} {l : Nat} {r x : List Int} {s : HuS} (h : (l : Int) ∉ G) (h2 : (l : Int) = tz) (h3 : s.1 = some x) (h4 : lsB ((l : Int) :: r).reverse x.reverse = true) : visX G tz ((l : Int) :: r) s = (some ((l : Int) :: r), fun v => if v = l then true else s.2 v) := by
  simp only [visX]; rw [if_neg h, if_pos ⟨h2, by rw [h3]; exact h4⟩]; rfl
theorem vis_more {G : List Int} {tz : Int} {l : Nat} {r x : List Int} {s : HuS} (h : (l : Int) ∉ G) (h2 : (l : Int) = tz) (h3 : s.1 = some x) (h4 : lsB ((l : Int) :: r).reverse x.reverse = false) : visX G tz ((l : Int) :: r) s = (s.1, fun v => if v = l then true else s.2 v) := by
  simp only [visX]; rw [if_neg h, if_neg (fun e => by have h5 := e.2; rw [h3] at h5; simp only at h5; rw [h4] at h5; simp at h5)]; rfl
/-- May a trail go on so, by what lies behind? -/
def opX (P : List (List Int)) (G A : List Int) (l : Nat) (k : Int) (r : List Int) : Bool :=
  match r with
  | [] => true
  | p :: _ => if p ∈ P.getD l [] ∧ k ∈ P.getD l [] then decide ((l : Int) ∈ A) else !decide ((l : Int) ∈ G)
theorem ok_eq (P : List (List Int)) (G A : List Int) (l k : Nat) (r : List Int) : okX P G A ((l : Int) :: r) (k : Int) = ((decide ((k : Int) ∈ P.getD l []) || decide ((l : Int) ∈ P.getD k [])) && !decide ((k : Int) ∈ (l : Int) :: r) && opX P G A l (k : Int) r) := by
  cases r <;> simp only [okX, opX, Int.toNat_natCast]
theorem below_grown1 {w w' : World} {v : Value} (hg : w.grownBy w' v.ownBlock) (hv : v.ownBlock = none) : Below w.heap.size w w' := ⟨hg.os, hg.tape, hg.output, hg.size, fun q hq => hg.block q hq (by rw [hv]; simp)⟩
set_option maxRecDepth 1000000 in
set_option maxHeartbeats 25600000 in
theorem walkH (hb gc n : Nat) (pv qv av : Value) (tz : Int) (pvs : List Value) (P : List (List Int)) (G A : List Int) (w0 : World) (hR0 : RRD w0 pv pvs P) (hQ0 : RG (Value.int .i64) w0 qv G) (hA0 : RG (Value.int .i64) w0 av A) (hn : P.length = n) (hn7 : n ≤ 100) : ∀ (m : Nat) (t : List Int) (s : HuS) (tv bv : Value) (B0 : Nat) (W : World), GdX P.length t → t ≠ [] → P.length ≤ t.length + m → HuC w0 W hb gc n pv qv av bv tz s → OG (Value.int .i64) B0 3 W tv t.reverse →
    Calls Tryz.prog 54 #[.pointer (some ⟨hb, 0, none⟩), tv] W fun e w' => e = .returned (.tuple #[]) ∧ ∃ bv', HuC w0 w' hb gc n pv qv av bv' tz (huF P G A tz m t s) ∧ FrP (HuX hb gc) W w' := by
  obtain ⟨i0, hi, hz0, hz1, hz2⟩ := info_parts Tryz.infoI
  obtain ⟨po, pn, pc, rfl⟩ : ∃ o n c, pv = .slice o n c := by obtain ⟨ao, cap, e⟩ := hR0.out.sl; exact ⟨_, _, _, e⟩
  obtain rfl : pn = n := by rw [← hn, ← hR0.len, hR0.out.len]
  obtain ⟨qo, qn, qc, rfl⟩ : ∃ o n c, qv = .slice o n c := by obtain ⟨ao, cap, e⟩ := hQ0.sl; exact ⟨_, _, _, e⟩
  obtain ⟨ao, an, ac, rfl⟩ : ∃ o n c, av = .slice o n c := by obtain ⟨ao, cap, e⟩ := hA0.sl; exact ⟨_, _, _, e⟩
  have HR : Hid (∀ W, Below w0.heap.size w0 W → RRD W (.slice po pn pc) pvs P) := fun W hW => hR0.below (Nat.le_refl _) hW
  have HQ : Hid (∀ W, Below w0.heap.size w0 W → RG (Value.int .i64) W (.slice qo qn qc) G) := fun W hW => hQ0.below (Nat.le_refl _) hW
  have HA : Hid (∀ W, Below w0.heap.size w0 W → RG (Value.int .i64) W (.slice ao an ac) A) := fun W hW => hA0.below (Nat.le_refl _) hW
  have HN : Hid (P.length = pn) := hn
  clear hR0 hQ0 hA0 hn
  intro m
  induction m using Nat.strongRecOn with
  | ind m IH =>
  intro t s tv bv B0 W hg hne hm hC hT
  obtain ⟨l0, r, rfl⟩ : ∃ l r, t = l :: r := by cases t with | nil => exact absurd rfl hne | cons l r => exact ⟨l, r, rfl⟩
  obtain ⟨l, rfl, hl⟩ := hg.2 l0 (by simp)
  rw [HN.out] at hl
  obtain ⟨t, ht⟩ : ∃ t, t = ((l : Nat) : Int) :: r := ⟨_, rfl⟩
  rw [← ht] at hg hne hm hT ⊢
  have HTT : Hid (t = ((l : Nat) : Int) :: r) := ht
  have htl : t.length ≤ 100 := by
    have h1 := len_nd P.length t hg.1 hg.2
    rw [HN.out] at h1; omega
  obtain ⟨tn, htn⟩ : ∃ k, t.length = k := ⟨_, rfl⟩
  have htn0 : 0 < tn := by rw [← htn, ht]; simp
  obtain ⟨gt, tc, rfl⟩ : ∃ g c, tv = .slice (some ⟨g, 0, none⟩) tn c := by
    obtain ⟨o, c, e, h1, -⟩ := hT.sl
    obtain ⟨g, -, e2⟩ := h1 (by rw [List.length_reverse, htn]; exact htn0)
    rw [List.length_reverse, htn] at e
    exact ⟨g, c, by rw [e, e2]⟩
  have HG : Hid (GdX P.length t) := hg
  have HM : Hid (P.length ≤ t.length + m) := hm
  have HTN : Hid (t.length = tn) := htn
  have HC : Hid (HuC w0 W hb gc pn (.slice po pn pc) (.slice qo qn qc) (.slice ao an ac) bv tz s) := hC
  have HT : Hid (∀ W', FrP (HuX hb gc) W W' → OG (Value.int .i64) B0 3 W' (.slice (some ⟨gt, 0, none⟩) tn tc) t.reverse) := fun W' hW => hC.keepI hT hW
  obtain ⟨tl, htl1⟩ : ∃ k, tn = k + 1 := ⟨tn - 1, by omega⟩
  have HLA : Hid (t.reverse[tl]? = some ((l : Nat) : Int)) := by
    show _ = _
    rw [List.getElem?_reverse (by omega), htn, htl1, Nat.add_sub_cancel, Nat.sub_self, ht]; rfl
  have htw : IntKind.i64.wrap ((tn : Int) - 1) = (tl : Int) := by rw [IntKind.wrap_i64]; omega
  have htlz : (tl : Int) < (tn : Int) := by omega
  have hc0 : W.cell? ⟨gt, tl, none⟩ = some (.int .i64 ((l : Nat) : Int)) := (hT.cell HLA.out).1
  have hq0 : W.cell? ⟨hb, 1, none⟩ = some (.slice qo qn qc) := hC.box.cell 1
  have CH : Hid _ := hasD (.slice qo qn qc) G (l : Int) W (HQ.out W hC.frm)
  have HT1 : Hid (tn = tl + 1) := htl1
  obtain ⟨b, hb0⟩ : ∃ b, b = decide ((l : Int) ∈ G) := ⟨_, rfl⟩
  rw [← hb0] at CH
  have HBB : Hid (b = decide ((l : Int) ∈ G)) := hb0
  clear hg hne hm hC hT ht htl htn htl1 hb0
  go_enter Tryz.func54, Tryz.ntmps54
  go_wp2_with fail
  refine Calls.mono CH.out ?_
  rintro e y ⟨rfl, hy⟩
  rw [hy]
  clear CH hy y htw hc0 hq0
  go_upto_if 23 with fail
  go_cut [5] from 24 to 56 (fun _v5 wx => ∃ bv2, Hid (HuC w0 wx hb gc pn (.slice po pn pc) (.slice qo qn qc) (.slice ao an ac) bv2 tz (visX G tz t s)) ∧ Hid (FrP (HuX hb gc) W wx))
  case first =>
    cases b with
    | true =>
      have hlg : (l : Int) ∈ G := of_decide_eq_true HBB.out.symm
      have HV : Hid (visX G tz t s = s) := by show _ = _; rw [HTT.out]; exact vis_in hlg
      clear hlg
      go_wp2
      go_meet
      exact ⟨bv, by show HuC _ _ _ _ _ _ _ _ _ _ _; rw [HV.out]; exact HC.out, FrP.refl _ _⟩
    | false =>
      have hlg : (l : Int) ∉ G := of_decide_eq_false HBB.out.symm
      obtain ⟨W1, hW1⟩ : ∃ U, U = W.setCell ⟨gc, l, none⟩ (.bool true) := ⟨_, rfl⟩
      have hmk := HC.out.mark l
      rw [← hW1] at hmk
      obtain ⟨hcc, hcf⟩ := HC.out.came.cell (rowB_get (f := s.2) hl)
      have hq5 : W.cell? ⟨hb, 5, none⟩ = some (.slice (some ⟨gc, 0, none⟩) pn pn) := HC.out.box.cell 5
      have hlz : (l : Int) < (pn : Int) := by omega
      have HC1 : Hid (HuC w0 W1 hb gc pn (.slice po pn pc) (.slice qo qn qc) (.slice ao an ac) bv tz (s.1, fun v => if v = l then true else s.2 v)) := hmk.1
      have HF1 : Hid (FrP (HuX hb gc) W W1) := hmk.2
      have HW1 : Hid (W1 = W.setCell ⟨gc, l, none⟩ (.bool true)) := hW1
      have hq3 : W1.cell? ⟨hb, 3, none⟩ = some (.int .i64 tz) := hmk.1.box.cell 3
      have hq4 : W1.cell? ⟨hb, 4, none⟩ = some bv := hmk.1.box.cell 4
      change W.cell? ⟨gc, l, none⟩ = some (.bool (s.2 l)) at hcc
      have HLG : Hid ((l : Int) ∉ G) := hlg
      clear hmk hW1 hlg
      go_upto_region 4 with fail
      rw [← HW1.out]
      clear hcc hcf hq5
      have htv : OG (Value.int .i64) B0 3 W1 (.slice (some ⟨gt, 0, none⟩) tn tc) t.reverse := HT.out W1 HF1.out
      by_cases htz : ((l : Nat) : Int) = tz
      case neg =>
        have hz : (((l : Nat) : Int) == tz) = false := beq_eq_false_iff_ne.2 htz
        have HV : Hid (visX G tz t s = (s.1, fun v => if v = l then true else s.2 v)) := by show _ = _; rw [HTT.out]; exact vis_ne HLG.out htz
        clear htz htv
        go_wp2
        go_meet
        exact ⟨bv, by show HuC _ _ _ _ _ _ _ _ _ _ _; rw [HV.out]; exact HC1.out, HF1⟩
      case pos =>
        have hz : (((l : Nat) : Int) == tz) = true := beq_iff_eq.2 htz
        have HTZ : Hid (((l : Nat) : Int) = tz) := htz
        clear htz
        rcases HC1.out.best with ⟨hno, hbv⟩ | ⟨x, g, k, c, hx, hbv, hox⟩
        case' inl =>
          subst hbv
          have heq := run_eqlZ
          have HV : Hid (visX G tz t s = (some t, fun v => if v = l then true else s.2 v)) := by show _ = _; rw [HTT.out]; exact vis_first HLG.out HTZ.out hno
          have HTV : Hid (OG (Value.int .i64) B0 3 W1 (.slice (some ⟨gt, 0, none⟩) tn tc) t.reverse) := htv
          clear hno htv
          go_upto_region 5 with fail
          clear heq hq3 hq4 hz
          obtain ⟨W2, hW2⟩ : ∃ U, U = W1 := ⟨_, rfl⟩
          have HC2 : Hid (HuC w0 W2 hb gc pn (.slice po pn pc) (.slice qo qn qc) (.slice ao an ac) (.slice none 0 0) tz (s.1, fun v => if v = l then true else s.2 v)) := by show HuC _ _ _ _ _ _ _ _ _ _ _; rw [hW2]; exact HC1.out
          have HF2 : Hid (FrP (HuX hb gc) W W2) := by show FrP _ _ _; rw [hW2]; exact HF1.out
          have HT2 : Hid (OG (Value.int .i64) B0 3 W2 (.slice (some ⟨gt, 0, none⟩) tn tc) t.reverse) := by show OG _ _ _ _ _ _; rw [hW2]; exact HTV.out
          rw [← hW2]
          clear hW2 HTV HC1 HF1
        case' inr =>
          subst hbv
          have heq := run_eqlN g k c
          have CL : Hid _ := lessH (.slice (some ⟨gt, 0, none⟩) tn tc) (.slice (some ⟨g, 0, none⟩) k c) t.reverse x.reverse W1 htv.rg hox.rg
          obtain ⟨b2, hb2⟩ : ∃ b, b = lsB t.reverse x.reverse := ⟨_, rfl⟩
          rw [← hb2] at CL
          have HB2 : Hid (b2 = lsB t.reverse x.reverse) := hb2
          have HX : Hid (s.1 = some x) := hx
          have HTV : Hid (OG (Value.int .i64) B0 3 W1 (.slice (some ⟨gt, 0, none⟩) tn tc) t.reverse) := htv
          clear hb2 hx htv hox
          go_wp2_with fail
          refine Calls.mono CL.out ?_
          rintro e W2 ⟨rfl, q, hq⟩
          have hbw : Below W1.heap.size W1 W2 := by rw [hq]; exact below_drewN (Below.refl _ _) q
          have HC2 : Hid (HuC w0 W2 hb gc pn (.slice po pn pc) (.slice qo qn qc) (.slice ao an ac) (.slice (some ⟨g, 0, none⟩) k c) tz (s.1, fun v => if v = l then true else s.2 v)) := HC1.out.below hbw
          have HF2 : Hid (FrP (HuX hb gc) W W2) := HF1.out.tr (FrP.of_below hbw) (fun _ _ h => h)
          have HT2 : Hid (OG (Value.int .i64) B0 3 W2 (.slice (some ⟨gt, 0, none⟩) tn tc) t.reverse) := HTV.out.below hbw
          clear CL hq hbw HTV HC1 HF1 heq hq3 hq4 hz
          cases b2
          case false =>
            have HV : Hid (visX G tz t s = (s.1, fun v => if v = l then true else s.2 v)) := by
              show _ = _
              have h7 := HB2.out.symm
              rw [HTT.out] at h7 ⊢
              exact vis_more HLG.out HTZ.out HX.out h7
            go_wp2
            go_meet
            exact ⟨_, by show HuC _ _ _ _ _ _ _ _ _ _ _; rw [HV.out]; exact HC2.out, HF2⟩
          case' true =>
            have HV : Hid (visX G tz t s = (some t, fun v => if v = l then true else s.2 v)) := by
              show _ = _
              have h7 := HB2.out.symm
              rw [HTT.out] at h7 ⊢
              exact vis_less HLG.out HTZ.out HX.out h7
            clear HB2 HX
            go_upto_region 5 with fail
        all_goals
          obtain ⟨WE, hWE⟩ : ∃ U, U = W2.alloc (.cells #[] 3) := ⟨_, rfl⟩
          obtain ⟨ge, hge⟩ : ∃ g, g = W2.heap.size := ⟨_, rfl⟩
          have hbe : Below W2.heap.size W2 WE := by rw [hWE]; exact belowB _ _
          have hle : OG (Value.int .i64) W2.heap.size 3 WE (.slice (some ⟨ge, 0, none⟩) 0 0) [] := by rw [hWE, hge]; exact OG.lit (enc := Value.int .i64) 3 W2 [] (by unfold maxLen; simp)
          have HLE : Hid (OG (Value.int .i64) W2.heap.size 3 WE (.slice (some ⟨ge, 0, none⟩) 0 0) []) := hle
          have HBE : Hid (Below W2.heap.size W2 WE) := hbe
          have HTE : Hid (RG (Value.int .i64) WE (.slice (some ⟨gt, 0, none⟩) tn tc) t.reverse) := (HT2.out.below hbe).rg
          have HTL : Hid (t.reverse.length ≤ 100) := by show _ ≤ _; rw [List.length_reverse]; have h1 := len_nd P.length t HG.out.1 HG.out.2; rw [HN.out] at h1; omega
          have HWE : Hid (WE = W2.alloc (.cells #[] 3)) := hWE
          have HGE : Hid (ge = W2.heap.size) := hge
          clear hWE hge hbe hle HT2
          go_wp2_with (at_builtin; rw [← HWE.out, ← HGE.out]; refine wpList_appG _ (fun _ => rfl) rfl _ _ 23 rfl W2.heap.size 3 i0 (.int .i64 0) 8 Tryz.underlying23 hi hz0 hz1 hz2 rfl _ _ [] t.reverse rfl HLE.out rfl HTE.out (by have := HTL.out; unfold maxLen; simp only [List.length_nil]; omega) (by have := HTL.out; simp only [List.length_nil]; omega) HBE.out.size ?_)
          intro v3 y3 ho hg3
          have ho3 : OG (Value.int .i64) W2.heap.size 3 y3 v3 t.reverse := ho
          have hb3 : Below W2.heap.size W2 y3 := HLE.out.grown HBE.out HBE.out.size hg3
          obtain ⟨g3, k3, c3, rfl⟩ : ∃ g k c, v3 = .slice (some ⟨g, 0, none⟩) k c := by
            obtain ⟨o, c, e, h1, -⟩ := ho3.sl
            obtain ⟨g, -, e2⟩ := h1 (by rw [List.length_reverse, HTT.out]; simp)
            exact ⟨g, _, c, by rw [e, e2]⟩
          have hc3 := HC2.out.below hb3
          have hc4 : y3.cell? ⟨hb, 4, none⟩ = _ := hc3.box.cell 4
          have hf4 : y3.frozen? ⟨hb, 4, none⟩ = false := frozen_of_row y3 hb 4 _ _ hc3.box
          have hbt := hc3.better (x := t) (ho3.mono HC2.out.frm.size)
          have HBT : Hid (HuC w0 (y3.setCell ⟨hb, 4, none⟩ (.slice (some ⟨g3, 0, none⟩) k3 c3)) hb gc pn (.slice po pn pc) (.slice qo qn qc) (.slice ao an ac) (.slice (some ⟨g3, 0, none⟩) k3 c3) tz (visX G tz t s)) := by show HuC _ _ _ _ _ _ _ _ _ _ _; rw [HV.out]; exact hbt.1
          have HFT : Hid (FrP (HuX hb gc) W (y3.setCell ⟨hb, 4, none⟩ (.slice (some ⟨g3, 0, none⟩) k3 c3))) := (HF2.out.tr (FrP.of_below hb3) (fun _ _ h => h)).tr hbt.2 (fun _ _ h => h)
          clear ho hg3 ho3 hb3 hc3 hbt HV HC2 HF2 HLE HBE HTE HWE HGE
          go_wp2
          go_meet
          exact ⟨_, HBT, HFT⟩
  case rest =>
    obtain ⟨bv2, H2, F2⟩ := hcut
    have H3 : Hid (HuC w0 wc hb gc pn (.slice po pn pc) (.slice qo qn qc) (.slice ao an ac) bv2 tz (huK P G A tz m t s 0)) := by show HuC _ _ _ _ _ _ _ _ _ _ _; rw [huK_zero]; exact H2.out
    have htnm : tn ≤ 100 := by have h1 := len_nd P.length t HG.out.1 HG.out.2; rw [HN.out, HTN.out] at h1; omega
    clear H2 HBB
    go_wp2
    go_loopg [6, 7, 8, 9] pn (fun g1 v6 _v7 _v8 _v9 wr => ∃ (k : Nat) (bv3 : Value), v6 = .int .i64 k ∧ k ≤ pn ∧ pn - k ≤ g1 ∧ Hid (HuC w0 wr hb gc pn (.slice po pn pc) (.slice qo qn qc) (.slice ao an ac) bv3 tz (huK P G A tz m t s k)) ∧ Hid (FrP (HuX hb gc) W wr))
    case atStart => exact ⟨0, bv2, rfl, Nat.zero_le _, by omega, H3, F2⟩
    case round =>
      clear H3 F2
      obtain ⟨k, bv3, rfl, hkn, hg1, HCR, HF⟩ := hrel
      have hp0 : wr.cell? ⟨hb, 0, none⟩ = some (.slice po pn pc) := HCR.out.box.cell 0
      by_cases hlt : k < pn
      · have hltz : (k : Int) < (pn : Int) := by omega
        have hR := HR.out wr HCR.out.frm
        have htr := HT.out wr HF.out
        have C1 : Hid _ := joinedH hb gc pn (.slice po pn pc) (.slice qo qn qc) (.slice ao an ac) bv3 tz pvs P (k : Int) l wr HCR.out.box hR (by rw [HN.out]; exact hl)
        have C2 : Hid _ := joinedH hb gc pn (.slice po pn pc) (.slice qo qn qc) (.slice ao an ac) bv3 tz pvs P (l : Int) k wr HCR.out.box hR (by rw [HN.out]; exact hlt)
        have CT : Hid _ := hasD (.slice (some ⟨gt, 0, none⟩) tn tc) t.reverse (k : Int) wr htr.rg
        obtain ⟨b1, hb1⟩ : ∃ b, b = decide ((k : Int) ∈ P.getD l []) := ⟨_, rfl⟩
        obtain ⟨b2, hb2⟩ : ∃ b, b = decide ((l : Int) ∈ P.getD k []) := ⟨_, rfl⟩
        obtain ⟨b3, hb3⟩ : ∃ b, b = decide ((k : Int) ∈ t.reverse) := ⟨_, rfl⟩
        rw [← hb1] at C1
        rw [← hb2] at C2
        rw [← hb3] at CT
        have HOK : Hid (okX P G A t (k : Int) = ((b1 || b2) && !b3 && opX P G A l (k : Int) r)) := by
          show _ = _
          have h8 := ok_eq P G A l k r
          rw [← HTT.out] at h8
          rw [h8, hb1, hb2, hb3]
          simp only [List.mem_reverse]
        have HRR : Hid (RRD wr (.slice po pn pc) pvs P) := hR
        have HTR : Hid (OG (Value.int .i64) B0 3 wr (.slice (some ⟨gt, 0, none⟩) tn tc) t.reverse) := htr
        clear hb1 hb2 hb3 hR htr
        go_wp2_with fail
        refine Calls.mono C1.out ?_
        rintro e y ⟨rfl, hy⟩
        rw [hy]
        clear C1 hy y
        go_wp2_with fail
        refine Calls.mono C2.out ?_
        rintro e y ⟨rfl, hy⟩
        rw [hy]
        clear C2 hy y
        by_cases hadj : (b1 || b2) = true
        case neg =>
          obtain ⟨rfl, rfl⟩ : b1 = false ∧ b2 = false := by cases b1 <;> cases b2 <;> simp at hadj <;> exact ⟨rfl, rfl⟩
          have HC9 : Hid (HuC w0 wr hb gc pn (.slice po pn pc) (.slice qo qn qc) (.slice ao an ac) bv3 tz (huK P G A tz m t s (k + 1))) := by
            show HuC _ _ _ _ _ _ _ _ _ _ _
            rw [huK_no (by rw [HOK.out]; rfl)]; exact HCR.out
          clear hadj HOK CT HCR HRR HTR
          go_wp2
          clear hp0
          go_roundg (pn - (k + 1))
          case measure => omega
          case rel => exact ⟨k + 1, bv3, by first | rfl | go_num, by omega, Nat.le_refl _, HC9, HF⟩
        case pos =>
          have HOK2 : Hid (okX P G A t (k : Int) = (!b3 && opX P G A l (k : Int) r)) := by
            show _ = _
            rw [HOK.out, hadj, Bool.true_and]
          clear HOK
          cases b1
          case' true =>
            clear hadj
            go_wp2_with fail
            refine Calls.mono CT.out ?_
          case' false =>
            obtain rfl : b2 = true := by simpa using hadj
            clear hadj
            go_wp2_with fail
            refine Calls.mono CT.out ?_
          all_goals
            rintro e y ⟨rfl, hy⟩
            rw [hy]
            clear CT hy y
            cases b3
            case true =>
              have HC9 : Hid (HuC w0 wr hb gc pn (.slice po pn pc) (.slice qo qn qc) (.slice ao an ac) bv3 tz (huK P G A tz m t s (k + 1))) := by
                show HuC _ _ _ _ _ _ _ _ _ _ _
                rw [huK_no (by rw [HOK2.out]; rfl)]; exact HCR.out
              clear HOK2 HCR HRR HTR
              go_wp2
              clear hp0
              go_roundg (pn - (k + 1))
              case measure => omega
              case rel => exact ⟨k + 1, bv3, by first | rfl | go_num, by omega, Nat.le_refl _, HC9, HF⟩
            case false =>
              have HOK3 : Hid (okX P G A t (k : Int) = opX P G A l (k : Int) r) := by show _ = _; rw [HOK2.out]; rfl
              clear HOK2
              by_cases htn1 : tn = 1
              case' pos =>
                have h1z : ¬ (1 : Int) < (tn : Int) := by omega
                have HOKT : Hid (okX P G A t (k : Int) = true) := by
                  show _ = _
                  have h8 := HTT.out
                  have h9 := HTN.out
                  rw [h8, List.length_cons] at h9
                  rw [HOK3.out, List.length_eq_zero_iff.1 (show r.length = 0 by omega)]; rfl
                clear HOK3 htn1 HRR
                go_upto_region 15 with fail
                clear h1z
              case' neg =>
                have h1z : (1 : Int) < (tn : Int) := by omega
                obtain ⟨p, r2, hr2⟩ : ∃ p r2, r = p :: r2 := by
                  cases r with
                  | nil => have h9 := HTN.out; rw [HTT.out] at h9; simp at h9; omega
                  | cons p r2 => exact ⟨p, r2, rfl⟩
                obtain ⟨t2, ht2⟩ : ∃ k, tn = k + 2 := ⟨tn - 2, by omega⟩
                have htw2 : IntKind.i64.wrap ((tn : Int) - 2) = (t2 : Int) := by rw [IntKind.wrap_i64]; omega
                have ht2z : (t2 : Int) < (tn : Int) := by omega
                have hlp : t.reverse[t2]? = some p := by
                  have h9 := HTN.out
                  rw [List.getElem?_reverse (by omega), h9, ht2]
                  rw [show t2 + 2 - 1 - t2 = 1 by omega, HTT.out, hr2]; rfl
                have hcp : wr.cell? ⟨gt, t2, none⟩ = some (.int .i64 p) := (HTR.out.cell hlp).1
                have CO : Hid _ := openH hb gc pn (.slice po pn pc) (.slice qo qn qc) (.slice ao an ac) bv3 tz pvs P G A p (k : Int) l wr HCR.out.box HRR.out (HQ.out wr HCR.out.frm) (HA.out wr HCR.out.frm) (by rw [HN.out]; exact hl)
                obtain ⟨o, ho⟩ : ∃ o, o = (if p ∈ P.getD l [] ∧ (k : Int) ∈ P.getD l [] then decide ((l : Int) ∈ A) else !decide ((l : Int) ∈ G)) := ⟨_, rfl⟩
                rw [← ho] at CO
                have HOK4 : Hid (okX P G A t (k : Int) = o) := by show _ = _; rw [HOK3.out, hr2, ho]; rfl
                clear HOK3 htn1 HRR hr2 ht2 hlp ho
                go_wp2_with fail
                refine Calls.mono CO.out ?_
                rintro e y ⟨rfl, hy⟩
                rw [hy]
                clear CO hy y hcp htw2 ht2z h1z
                cases o
                case false =>
                  have HC9 : Hid (HuC w0 wr hb gc pn (.slice po pn pc) (.slice qo qn qc) (.slice ao an ac) bv3 tz (huK P G A tz m t s (k + 1))) := by
                    show HuC _ _ _ _ _ _ _ _ _ _ _
                    rw [huK_no HOK4.out]; exact HCR.out
                  clear HOK4 HCR HTR
                  go_wp2
                  clear hp0
                  go_roundg (pn - (k + 1))
                  case measure => omega
                  case rel => exact ⟨k + 1, bv3, by first | rfl | go_num, by omega, Nat.le_refl _, HC9, HF⟩
                case' true =>
                  have HOKT : Hid (okX P G A t (k : Int) = true) := HOK4.out
                  clear HOK4
                  go_upto_region 15 with fail
              all_goals
                obtain ⟨m', rfl⟩ : ∃ m', m = m' + 1 := by
                  cases m with
                  | zero => exact absurd HOKT.out (by rw [gd_stop HG.out (by have := HM.out; omega) (by rw [HN.out]; exact hlt)]; decide)
                  | succ m' => exact ⟨m', rfl⟩
                obtain ⟨WE, hWE⟩ : ∃ U, U = wr.alloc (.cells #[] 3) := ⟨_, rfl⟩
                obtain ⟨ge, hge⟩ : ∃ g, g = wr.heap.size := ⟨_, rfl⟩
                have hbe : Below wr.heap.size wr WE := by rw [hWE]; exact belowB _ _
                have HLE : Hid (OG (Value.int .i64) wr.heap.size 3 WE (.slice (some ⟨ge, 0, none⟩) 0 0) []) := by show OG _ _ _ _ _ _; rw [hWE, hge]; exact OG.lit (enc := Value.int .i64) 3 wr [] (by unfold maxLen; simp)
                have HBE : Hid (Below wr.heap.size wr WE) := hbe
                have HTE : Hid (RG (Value.int .i64) WE (.slice (some ⟨gt, 0, none⟩) tn tc) t.reverse) := (HTR.out.below hbe).rg
                have HTL : Hid (t.reverse.length ≤ 100) := by show _ ≤ _; rw [List.length_reverse, HTN.out]; exact htnm
                have HWE : Hid (WE = wr.alloc (.cells #[] 3)) := hWE
                have HGE : Hid (ge = wr.heap.size) := hge
                clear hWE hge hbe HTR hp0
                go_wp2_with (at_builtin; rw [← HWE.out, ← HGE.out]; refine wpList_appG _ (fun _ => rfl) rfl _ _ 23 rfl wr.heap.size 3 i0 (.int .i64 0) 8 Tryz.underlying23 hi hz0 hz1 hz2 rfl _ _ [] t.reverse rfl HLE.out rfl HTE.out (by have := HTL.out; unfold maxLen; simp only [List.length_nil]; omega) (by have := HTL.out; simp only [List.length_nil]; omega) HBE.out.size ?_)
                intro v1 y1 ho hg3
                have HO1 : Hid (OG (Value.int .i64) wr.heap.size 3 y1 v1 t.reverse) := ho
                have HB1 : Hid (Below wr.heap.size wr y1) := HLE.out.grown HBE.out HBE.out.size hg3
                obtain ⟨o1, n1, c1, rfl⟩ : ∃ o n c, v1 = .slice o n c := by obtain ⟨ao, cap, e, -⟩ := HO1.out.sl; exact ⟨_, _, _, e⟩
                obtain ⟨WA, hWA⟩ : ∃ U, U = y1.alloc (.cells #[.int .i64 (k : Int)] 3) := ⟨_, rfl⟩
                obtain ⟨ga, hga⟩ : ∃ g, g = y1.heap.size := ⟨_, rfl⟩
                have hba : Below y1.heap.size y1 WA := by rw [hWA]; exact belowB _ _
                have HCA : Hid (WA.cell? ⟨ga, 0, none⟩ = some (.int .i64 (k : Int))) := by show _ = _; rw [hWA, hga, World.cell?_alloc_at _ _ _ _ rfl]; rfl
                have HOA : Hid (OG (Value.int .i64) wr.heap.size 3 WA (.slice o1 n1 c1) t.reverse) := HO1.out.below hba
                have HBA : Hid (Below wr.heap.size wr WA) := bstepB HB1.out hba
                have HWA : Hid (WA = y1.alloc (.cells #[.int .i64 (k : Int)] 3)) := hWA
                have HGA : Hid (ga = y1.heap.size) := hga
                clear ho hg3 hWA hga hba HLE HBE HTE HWE HGE HO1 HB1
                go_wp2_with (at_builtin; rw [← HWA.out, ← HGA.out]; refine wpList_pushV (enc := Value.int .i64) _ rfl _ _ 23 rfl wr.heap.size 3 i0 (.int .i64 0) 8 Tryz.underlying23 hi hz0 hz1 hz2 rfl _ t.reverse rfl HOA.out ga (k : Int) rfl HCA.out rfl (by have := HTL.out; unfold maxLen; omega) (by have := HTL.out; omega) HBA.out.size ?_)
                intro ng tm ncap W5 ho5 hg5 hng _
                have hb5 : Below wr.heap.size wr W5 := HOA.out.grown HBA.out HBA.out.size hg5
                have hc5 := HCR.out.below hb5
                have HB5 : Hid (Below wr.heap.size wr W5) := hb5
                have CI : Hid _ := IH m' (by omega) ((k : Int) :: t) (huK P G A tz (m' + 1) t s k) (.slice (some ⟨ng, 0, none⟩) tm ncap) bv3 wr.heap.size W5 (HG.out.cons (by rw [HN.out]; exact hlt) HOKT.out) (by simp) (by have := HM.out; rw [List.length_cons]; omega) hc5 (by rw [List.reverse_cons]; exact ho5)
                clear ho5 hg5 hng hb5 hc5 HOA HBA HCA HWA HGA HTL
                go_wp2_with fail
                refine Calls.mono CI.out ?_
                rintro e y6 ⟨rfl, bv6, hc6, hf6⟩
                have HC9 : Hid (HuC w0 y6 hb gc pn (.slice po pn pc) (.slice qo qn qc) (.slice ao an ac) bv6 tz (huK P G A tz (m' + 1) t s (k + 1))) := by
                  show HuC _ _ _ _ _ _ _ _ _ _ _
                  rw [huK_yes HOKT.out]; exact hc6
                have HF9 : Hid (FrP (HuX hb gc) W y6) := (HF.out.tr (FrP.of_below HB5.out) (fun _ _ h => h)).tr hf6 (fun _ _ h => h)
                clear CI hc6 hf6 HOKT HCR HB5 HF
                go_wp2
                go_roundg (pn - (k + 1))
                case measure => omega
                case rel => exact ⟨k + 1, bv6, by first | rfl | go_num, by omega, Nat.le_refl _, HC9, HF9⟩
      · have hltz : ¬ (k : Int) < (pn : Int) := by omega
        obtain rfl : k = pn := by omega
        have HE : Hid (HuC w0 wr hb gc k (.slice po k pc) (.slice qo qn qc) (.slice ao an ac) bv3 tz (huF P G A tz m t s)) := by
          show HuC _ _ _ _ _ _ _ _ _ _ _
          have h9 := huK_end P G A tz m t s
          rw [HN.out] at h9
          rw [← h9]; exact HCR.out
        clear HCR
        go_wp2
        go_end0
        exact ⟨rfl, ⟨bv3, HE.out⟩, HF.out⟩
end Go.Proofs.YtcoiapgfaibkgaaGreat
