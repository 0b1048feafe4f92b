/-
  Proved here: package dag's steps: how far points are from one, as far as the shortest way back goes.
-/
import Derived.Test.YtmgbhbdcnciccaaDagCyAAll
import Derived.Test.YtmgbhbdcnciccaaDagL2All
namespace Go.Proofs.Ytmgbhbdcnciccaa
set_option linter.unusedVariables false
open Go.RowKit
/-- What the search leaves. -/
def StE (P : List (List Int)) (T : List Int) (s most : Nat) (w w' : World) (e : Ending) : Prop :=
  (∃ (b L nn : Nat) (M : Int → Option Int), e = .returned (.tuple #[.map (some b), .int .i64 L]) ∧ MpI w' b nn M ∧ MinC P T s L ∧ L ≤ most ∧ L ≤ 100001 ∧ w.heap.size ≤ b ∧ ∀ c : Nat, c < L → ∀ x : Int, M x = some (c : Int) ↔ ∃ v : Nat, x = (v : Int) ∧ v < P.length ∧ (v : Int) ∉ T ∧ Dst P T s c v)
  ∨ (e = .returned (.tuple #[.map none, .int .i64 0]) ∧ ∀ m, 1 ≤ m → m ≤ most → ¬ Wk P T s m s)
theorem RtC.belowD {B : Nat} {S : Nat → Prop} {w w' : World} {rb : Nat} {a v : Value} {g go gw n : Nat} {cvs : List Value} {C : Nat → List Int} {Ob : List Bool} {Wt L : List Int} (h : RtC B S w rb a v g go gw n cvs C Ob Wt L) (hb : Below w.heap.size w w') : RtC B S w' rb a v g go gw n cvs C Ob Wt L :=
  h.frame (X := fun _ => False) (FrP.of_below hb) (fun q e => e.elim)
set_option maxRecDepth 100000 in
set_option maxHeartbeats 12800000 in
theorem stepsD (B : Nat) (S : Nat → Prop) (w : World) (rb : Nat) (a v : Value) (g go gw n : Nat) (cvs : List Value) (P : List (List Int)) (Ob : List Bool) (Wt L T : List Int) (s most : Nat)
    (h : RtC B S w rb a v g go gw n cvs (fun j => chF P j n) Ob Wt L) (hn : P.length = n) (hb : n ≤ 100000) (hO : ObR n T Ob) (hs : s < n) (hsT : (s : Int) ∉ T) (hP : WfP P) (hm : most ≤ 100000) :
    Calls Try.prog 52 #[.pointer (some ⟨rb, 0, none⟩), .int .i64 (s : Int), .int .i64 (most : Int)] w fun e w' => StE P T s most w w' e ∧ Below w.heap.size w w' := by
  have hmm := @run_makeMap Try.prog
  obtain ⟨i0, hi, hz0, hz1, hz2⟩ := info_parts Try.infoI
  have HR : Hid (∀ W, Below w.heap.size w W → RtC B S W rb a v g go gw n cvs (fun j => chF P j n) Ob Wt L) := fun W hW => h.belowD hW
  have HO : Hid (ObR n T Ob) := hO
  have HP : Hid (WfP P) := hP
  have HN : Hid (P.length = n) := hn
  have HST : Hid ((s : Int) ∉ T) := hsT
  have hwfs : (Lit.int .i64 (s : Int)).wf = true := WalkArith.wf_i64 (by omega)
  have hwf0 : (Lit.int .i64 (0 : Int)).wf = true := WalkArith.wf_i64 (by omega)
  have H0 : Hid (BfsI P T s [] [(s : Int)] (fun y => if y = (s : Int) then some 0 else none) 0) := BfsI.start (by rw [hn]; exact hs) hsT
  obtain ⟨b, hbb⟩ : ∃ b, b = w.heap.size := ⟨_, rfl⟩
  have HBB : Hid (b = w.heap.size) := hbb
  have HMK : Hid (MpI (w.alloc (.map #[] 0)) b 0 (fun _ => none)) := by show MpI _ _ _ _; rw [hbb]; exact MpI.made w
  have hbe : w.heap.size = b := hbb.symm
  clear h hO hP hn hsT hbb
  go_enter Try.func52, Try.ntmps52
  go_wp2_with (refine wpList_mpPut rfl _ _ _ (Or.inr rfl) b 0 _ (by first | rfl | (simp only [hbe])) HMK.out (by unfold maxLen; omega) _ _ rfl rfl hwfs hwf0 ?_)
  intro w1 hM1 hg1
  have HB1 : Hid (Below w.heap.size w w1) := by
    show Below _ _ _
    exact ((Below.refl _ w).alloc (Nat.le_refl _) _).grown hg1 (by simp) (fun q e => by simp only [Option.some.injEq] at e; rw [← e, hbe]; exact Nat.le_refl _)
  have HM1 : Hid (MpI w1 b 1 (fun y => if y = (s : Int) then some 0 else none)) := hM1
  obtain ⟨W2, hW2⟩ : ∃ W, W = w1.alloc (.cells #[.int .i64 (s : Int)] 3) := ⟨_, rfl⟩
  obtain ⟨g2, hg2⟩ : ∃ g, g = w1.heap.size := ⟨_, rfl⟩
  have HQ2 : Hid (QG w.heap.size 3 W2 (.slice (some ⟨g2, 0, none⟩) 1 1) [(s : Int)]) := by show QG _ _ _ _ _; rw [hW2, hg2]; exact QG.one HB1.out.size
  have HB2 : Hid (Below w.heap.size w W2) := by show Below _ _ _; rw [hW2]; exact HB1.out.alloc HB1.out.size _
  have HM2 : Hid (MpI W2 b 1 (fun y => if y = (s : Int) then some 0 else none)) := HM1.out.of_block (by rw [hW2]; exact heap_alloc_old _ _ HM1.out.lt)
  have HW2 : Hid (W2 = w1.alloc (.cells #[.int .i64 (s : Int)] 3)) := hW2
  have HG2 : Hid (g2 = w1.heap.size) := hg2
  clear hM1 hg1 HM1 HB1 HMK hW2 hg2
  go_wp2
  rw [← HW2.out, ← HG2.out]
  clear HW2 HG2
  go_loopg [9, 10, 12, 13, 14] n (fun g1 v9 _v10 _v12 _v13 _v14 wr => ∃ (Z Q : List Int) (M : Int → Option Int) (far : Nat) (wo : Option Addr) (wn wc : Nat), v9 = .slice wo wn wc ∧ n - Z.length ≤ g1 ∧ Hid (BfsI P T s Z Q M far) ∧ Hid (∀ x c, M x = some c → c ≤ (Z.length : Int)) ∧ Hid (QG w.heap.size 3 wr (.slice wo wn wc) Q) ∧ Hid (MpI wr b (Z ++ Q).length M) ∧ Hid (Below w.heap.size w wr))
  case atStart => exact ⟨[], [(s : Int)], _, 0, _, _, _, rfl, by simp, H0, (fun x c hx => by
    by_cases e : x = (s : Int)
    · rw [if_pos e] at hx; simp at hx; subst hx; simp
    · rw [if_neg e] at hx; simp at hx), HQ2, HM2, HB2⟩
  case round =>
    clear HQ2 HB2 HM2 H0
    obtain ⟨Z, Q, M, far, wo, wn, wc, rfl, hg1, HI, HV, HQ, HM, HB⟩ := hrel
    rcases Q with _ | ⟨u0, Q1⟩
    · obtain ⟨g', o', cap', cur', e1, _⟩ := HQ.out
      simp only [Value.slice.injEq, List.length_nil] at e1
      obtain ⟨rfl, rfl, rfl⟩ := e1
      go_wp2
      go_ret2
      exact ⟨Or.inr ⟨rfl, fun m h1 _ => HI.out.nob HP.out h1 (Or.inr rfl)⟩, HB.out⟩
    · have hpl := HI.out.pts.len
      rw [HN.out, List.length_append, List.length_cons] at hpl
      have hu0 := HI.out.pts.2 u0 (by simp)
      rw [HN.out] at hu0
      obtain ⟨u, rfl⟩ : ∃ u : Nat, u0 = (u : Int) := ⟨u0.toNat, by omega⟩
      have hun : u < n := by omega
      obtain ⟨d, hd, _⟩ := HI.out.que (u : Int) (by simp)
      have HK : Hid (BfsK P T s u Z Q1 [] M d) := HI.out.open HV.out hd
      have hdz : d ≤ Z.length := HK.out.inv.fz
      obtain ⟨g', o', cap', cur', e1, _⟩ := id HQ.out
      simp only [Value.slice.injEq, List.length_cons] at e1
      obtain ⟨rfl, rfl, rfl⟩ := e1
      obtain ⟨x, gx, ox, hx1, hx2, hx3⟩ := HQ.out.rg.at (show 0 < Q1.length + 1 by omega)
      simp only [Option.some.injEq, Addr.mk.injEq, and_true] at hx2
      obtain ⟨rfl, rfl⟩ := hx2
      simp only [List.getElem?_cons_zero, Option.some.injEq] at hx1
      subst hx1
      rw [Nat.add_zero] at hx3
      have hwfu : (Lit.int .i64 (u : Int)).wf = true := WalkArith.wf_i64 (by omega)
      have HMU : Hid (M (u : Int) = some (d : Int)) := hd
      have hpos : ((Q1.length + 1 : Nat) : Int) > 0 := by omega
      clear hd
      by_cases hmo : most ≤ d
      · have hmz : (d : Int) ≥ (most : Int) := by omega
        go_wp2_with (at_lookup; refine wpList_mpLook rfl _ _ rfl b _ M rfl HM.out _ rfl hwfu _ HMU.out ?_)
        go_wp2
        go_ret2
        exact ⟨Or.inr ⟨rfl, fun m h1 h2 => HK.out.inv.nob HP.out h1 (Or.inl (by omega))⟩, HB.out⟩
      · have hmz : ¬ (d : Int) ≥ (most : Int) := by omega
        have HRW := HR.out wr HB.out
        obtain ⟨d1, d2, d3, d4⟩ := HRW.ln.box.cells
        have hcl := HRW.row.len
        obtain ⟨x, gp, op, hy1, hy3, hy2⟩ := HRW.row.at hun
        simp only [Option.some.injEq, Addr.mk.injEq, and_true] at hy3
        obtain ⟨rfl, rfl⟩ := hy3
        obtain ⟨ch, hch⟩ : ∃ ch, ch = chF P u n := ⟨_, rfl⟩
        have hur : RG (Value.int .i64) wr x ch := by have := HRW.inn u x hy1; rw [← hch] at this; exact this
        obtain ⟨uo, un, uc, rfl⟩ : ∃ o n c, x = .slice o n c := by obtain ⟨ao, cap, e⟩ := hur.sl; exact ⟨_, _, _, e⟩
        rw [Nat.zero_add] at hy2
        change wr.cell? ⟨g, u, none⟩ = some (.slice uo un uc) at hy2
        have HCH : Hid (ch = chF P u n) := hch
        have HU : Hid (cvs[u]? = some (.slice uo un uc)) := hy1
        have hul : ch.length = un := hur.len
        have HUL : Hid (ch.length = un) := hul
        have hunn : un ≤ n := by rw [← hul, hch]; exact chF_len _ _ _
        have hunz : (u : Int) < (n : Int) := by omega
        have HUR : Hid (∀ W, Below w.heap.size w W → RG (Value.int .i64) W (.slice uo un uc) ch) := fun W hW => by have := (HR.out W hW).inn u _ HU.out; rw [← hch] at this; exact this
        clear HRW hcl hy1 hch hur hul
        go_wp2_with (at_lookup; refine wpList_mpLook rfl _ _ rfl b _ M rfl HM.out _ rfl hwfu _ HMU.out ?_)
        go_region
        obtain ⟨W3, hW3⟩ : ∃ W, W = wr.drew := ⟨_, rfl⟩
        have HQ3 : Hid (QG w.heap.size 3 W3 (.slice (some ⟨g', o', none⟩) (Q1.length + 1) wc) ((u : Int) :: Q1)) := by show QG _ _ _ _ _; rw [hW3]; exact HQ.out.of_blocks fun _ _ => rfl
        have HM3 : Hid (MpI W3 b (Z ++ (u : Int) :: Q1).length M) := by show MpI _ _ _ _; rw [hW3]; exact HM.out.of_block rfl
        have HB3 : Hid (Below w.heap.size w W3) := by show Below _ _ _; rw [hW3]; exact HB.out.trans ((below_drewN (Below.refl _ wr) 1).mono HB.out.size)
        have HK3 : Hid (BfsK P T s u Z Q1 (ch.take 0) M d) := HK.out
        rw [← hW3]
        clear hW3 HQ HM HB HK HI HV HMU d1 d2 d3 d4 hy2 hx3
        go_wp2
        go_loopg [9, 12, 13, 14, 43] un (fun g2 v9 _v12 _v13 _v14 v43 wq => ∃ (k : Nat) (Q1 : List Int) (M : Int → Option Int) (wo : Option Addr) (wn wc : Nat), v9 = .slice wo wn wc ∧ v43 = .int .i64 k ∧ k ≤ un ∧ un - k ≤ g2 ∧ Hid (BfsK P T s u Z Q1 (ch.take k) M d) ∧ Hid (QG w.heap.size 3 wq (.slice wo wn wc) ((u : Int) :: Q1)) ∧ Hid (MpI wq b (Z ++ (u : Int) :: Q1).length M) ∧ Hid (Below w.heap.size w wq))
        case atStart => exact ⟨0, Q1, M, _, _, _, rfl, rfl, by omega, by omega, HK3, HQ3, HM3, HB3⟩
        case round =>
          clear HQ3 HM3 HB3 HK3
          obtain ⟨k, Q2, M2, wo, wn, wc, rfl, rfl, hku, hg2, HK, HQ, HM, HB⟩ := hrel
          by_cases hlk : k < un
          · have hlkz : (k : Int) < (un : Int) := by omega
            obtain ⟨y, gx, ox, hy1, rfl, hy2⟩ := (HUR.out wr HB.out).at hlk
            obtain ⟨c, hcn, rfl, huc⟩ := chF_mem.1 (by rw [← HCH.out]; exact List.mem_of_getElem? hy1)
            have htk : ch.take (k + 1) = ch.take k ++ [(c : Int)] := by rw [List.take_add_one, hy1]; rfl
            have HTK : Hid (ch.take (k + 1) = ch.take k ++ [(c : Int)]) := htk
            have HUC : Hid ((u : Int) ∈ P.getD c []) := huc
            have hwfc : (Lit.int .i64 (c : Int)).wf = true := WalkArith.wf_i64 (by omega)
            have hcz : (c : Int) < (n : Int) := by omega
            clear hy1 htk huc
            by_cases hcs : c = s
            · subst hcs
              have HF : Hid (MinC P T c (d + 1)) := HK.out.found HP.out HUC.out
              go_wp2
              go_ret2
              refine ⟨Or.inl ⟨b, d + 1, _, M2, rfl, HM.out, HF.out, by omega, by omega, by omega, fun c' hc' x => HK.out.inv.exact HP.out (by omega)⟩, HB.out⟩
            · have hcs2 : ((c : Int) == (s : Int)) = false := by simp; omega
              rcases hMc : M2 (c : Int) with _ | z
              · have HRW := HR.out wr HB.out
                obtain ⟨d1, d2, d3, d4⟩ := HRW.ln.box.cells
                obtain ⟨ho1, ho2⟩ := HRW.out.cell (HO.out c hcn)
                clear HRW
                by_cases hct : (c : Int) ∈ T
                · rw [decide_eq_true hct] at ho1
                  have HK4 : Hid (BfsK P T s u Z Q2 (ch.take (k + 1)) M2 d) := by show BfsK _ _ _ _ _ _ _ _ _; rw [HTK.out]; exact HK.out.skip hcs (Or.inr hct)
                  go_wp2_with (at_lookup; refine wpList_mpLookOk rfl _ _ rfl b _ M2 rfl HM.out _ rfl hwfc ?_; rw [hMc])
                  go_wp2
                  go_roundg (un - (k + 1))
                  case measure => omega
                  case rel => exact ⟨k + 1, Q2, M2, _, _, _, rfl, by first | rfl | go_num, by omega, Nat.le_refl _, HK4, HQ, HM, HB⟩
                · rw [decide_eq_false hct] at ho1
                  have HK4 : Hid (BfsK P T s u Z (Q2 ++ [(c : Int)]) (ch.take (k + 1)) (fun y => if y = (c : Int) then some ((d + 1 : Nat) : Int) else M2 y) d) := by show BfsK _ _ _ _ _ _ _ _ _; rw [HTK.out]; exact HK.out.put (by rw [HN.out]; exact hcn) HUC.out hcs hMc hct
                  have hpl2 := HK4.out.inv.pts.len
                  rw [HN.out, List.length_append, List.length_cons, List.length_append, List.length_singleton] at hpl2
                  have hwfd : (Lit.int .i64 ((d : Int) + 1)).wf = true := WalkArith.wf_i64 (by omega)
                  have hml : (Z ++ (u : Int) :: Q2).length < maxLen := by rw [List.length_append, List.length_cons]; unfold maxLen; omega
                  have hml2 : (Z ++ (u : Int) :: (Q2 ++ [(c : Int)])).length = Z.length + (Q2.length + 1) + 1 := by simp; omega
                  have HML2 : Hid ((Z ++ (u : Int) :: (Q2 ++ [(c : Int)])).length = Z.length + (Q2.length + 1) + 1) := hml2
                  clear hml2
                  go_wp2_with (first | (at_lookup; refine wpList_mpLookOk rfl _ _ rfl b _ M2 rfl HM.out _ rfl hwfc ?_; rw [hMc]) | (at_mapUpdate; refine wpList_mpPut rfl _ _ _ (Or.inl rfl) b _ M2 rfl HM.out hml _ _ rfl rfl hwfc hwfd ?_))
                  intro w1 hM1 hgr1
                  have HM6 : Hid (MpI w1 b (Z ++ (u : Int) :: (Q2 ++ [(c : Int)])).length (fun y => if y = (c : Int) then some ((d + 1 : Nat) : Int) else M2 y)) := by show MpI _ _ _ _; rw [HML2.out]; exact hM1.congr (fun y => by rw [show ((d + 1 : Nat) : Int) = (d : Int) + 1 by omega])
                  have HB6 : Hid (Below w.heap.size w w1) := by
                    show Below _ _ _
                    exact HB.out.grown hgr1 HB.out.size (fun q e => by simp only [Option.some.injEq] at e; rw [← e, hbe]; exact Nat.le_refl _)
                  have HQ6 : Hid (QG w.heap.size 3 w1 (.slice wo wn wc) ((u : Int) :: Q2)) := HQ.out.of_blocks fun q hq => hgr1.block q (HQ.out.lt q hq).2 (fun e => by
                    simp only [Option.some.injEq] at e
                    obtain ⟨cs, hcs9⟩ := HQ.out.blockE hq
                    exact HM.out.ne hcs9 e.symm)
                  obtain ⟨WA, hWA⟩ : ∃ W, W = w1.alloc (.cells #[.int .i64 (c : Int)] 3) := ⟨_, rfl⟩
                  obtain ⟨gb, hgb⟩ : ∃ g, g = w1.heap.size := ⟨_, rfl⟩
                  have HBA : Hid (Below w1.heap.size w1 WA) := by show Below _ _ _; rw [hWA]; exact belowB _ _
                  have HCB : Hid (WA.cell? ⟨gb, 0, none⟩ = some (.int .i64 (c : Int))) := by show _ = _; rw [hWA, hgb, World.cell?_alloc_at _ _ _ _ rfl]; rfl
                  have HWA : Hid (WA = w1.alloc (.cells #[.int .i64 (c : Int)] 3)) := hWA
                  have HGB : Hid (gb = w1.heap.size) := hgb
                  have HQA : Hid (QG w.heap.size 3 WA (.slice wo wn wc) ((u : Int) :: Q2)) := HQ6.out.of_blocks fun q hq => HBA.out.block q (HQ6.out.lt q hq).2
                  have hql : ((u : Int) :: Q2).length ≤ 1000000 := by rw [List.length_cons]; omega
                  clear hWA hgb hM1 hgr1 HM HQ HB HML2 d1 d2 d3 d4 ho1 ho2 hy2
                  go_wp2_with (at_builtin; rw [← HWA.out, ← HGB.out]; refine wpList_pushQ rfl _ _ 24 rfl w.heap.size 3 i0 Try.underlying24 hi hz0 hz1 hz2 _ ((u : Int) :: Q2) rfl HQA.out gb (c : Int) rfl HCB.out hql (Nat.le_trans HB6.out.size HBA.out.size) ?_)
                  intro g4 o4 n4 c4 W2 ho hg3 hng
                  have HB7 : Hid (Below w.heap.size w W2) := by
                    show Below _ _ _
                    have hBA := HB6.out.trans (HBA.out.mono HB6.out.size)
                    exact ⟨hg3.os.trans hBA.os, hg3.tape.trans hBA.tape, hg3.output.trans hBA.output, Nat.le_trans hBA.size hg3.size, fun q hq => (hg3.block q (Nat.lt_of_lt_of_le hq hBA.size) (fun e => by have := (HQA.out.lt q e.symm).1; omega)).trans (hBA.block q hq)⟩
                  have HM7 : Hid (MpI W2 b (Z ++ (u : Int) :: (Q2 ++ [(c : Int)])).length (fun y => if y = (c : Int) then some ((d + 1 : Nat) : Int) else M2 y)) := HM6.out.of_block (by
                    have hlt := HM6.out.lt
                    rw [hg3.block b (Nat.lt_of_lt_of_le hlt HBA.out.size) (fun e => by
                      obtain ⟨cs, hcs9⟩ := HQ6.out.blockE e.symm
                      exact HM6.out.ne hcs9 rfl), HBA.out.block b hlt])
                  have HQ7 : Hid (QG w.heap.size 3 W2 (.slice (some ⟨g4, o4, none⟩) n4 c4) ((u : Int) :: (Q2 ++ [(c : Int)]))) := by show QG _ _ _ _ _; rw [hbe]; exact ho
                  clear ho hg3 hng HM6 HB6 HQ6 HQA HBA HCB HWA HGB
                  go_wp2
                  go_roundg (un - (k + 1))
                  case measure => omega
                  case rel => exact ⟨k + 1, _, _, _, _, _, rfl, by first | rfl | go_num, by omega, Nat.le_refl _, HK4, HQ7, HM7, HB7⟩
              · have HK4 : Hid (BfsK P T s u Z Q2 (ch.take (k + 1)) M2 d) := by show BfsK _ _ _ _ _ _ _ _ _; rw [HTK.out]; exact HK.out.skip hcs (Or.inl ⟨_, hMc⟩)
                go_wp2_with (at_lookup; refine wpList_mpLookOk rfl _ _ rfl b _ M2 rfl HM.out _ rfl hwfc ?_; rw [hMc])
                go_wp2
                go_roundg (un - (k + 1))
                case measure => omega
                case rel => exact ⟨k + 1, Q2, M2, _, _, _, rfl, by first | rfl | go_num, by omega, Nat.le_refl _, HK4, HQ, HM, HB⟩
          · have hlkz : ¬ (k : Int) < (un : Int) := by omega
            have htk : ch.take k = ch := List.take_of_length_le (by rw [HUL.out]; omega)
            obtain ⟨g3, o3, cap3, cur3, e1, _⟩ := id HQ.out
            simp only [Value.slice.injEq, List.length_cons] at e1
            obtain ⟨rfl, rfl, rfl⟩ := e1
            have HD := HK.out.done (by rw [HN.out]; exact hs) (fun i hi hm => by rw [htk, HCH.out]; exact chF_mem.2 ⟨i, by rw [← HN.out]; exact hi, rfl, hm⟩)
            have HI2 : Hid (BfsI P T s (Z ++ [(u : Int)]) Q2 M2 d) := HD.1
            have HV2 : Hid (∀ x c, M2 x = some c → c ≤ ((Z ++ [(u : Int)]).length : Int)) := HD.2
            have HQ5 : Hid (QG w.heap.size 3 wr (.slice (some ⟨g3, o3 + 1, none⟩) (Q2.length + 1 - 1) (wc - 1)) Q2) := HQ.out.tail
            have HQ50 : Hid (wc = 1 → QG w.heap.size 3 wr (.slice (some ⟨g3, o3, none⟩) (Q2.length + 1 - 1) 0) Q2) := fun e => by have := HQ.out; subst e; exact this.tail0
            have HM5 : Hid (MpI wr b (Z ++ [(u : Int)] ++ Q2).length M2) := HM.out.mono (by simp)
            have hb1 : (1 : Int) ≤ ((Q2.length + 1 : Nat) : Int) := by omega
            have hwc : Q2.length + 1 ≤ wc := HQ.out.rg.room.1
            have hwm : wc ≤ 9223372036854775807 := by have := HQ.out.rg.room.2.1; unfold maxLen at this; omega
            clear HD htk HK HQ HM
            by_cases hw1 : wc = 1
            · have HQ6 := HQ50.out hw1
              subst hw1
              rw [Nat.add_sub_cancel] at HQ6
              have hq0 : Q2.length = 0 := by omega
              rw [hq0] at HQ6
              have HQ7 : Hid (QG w.heap.size 3 wr (.slice (some ⟨g3, o3, none⟩) 0 0) Q2) := HQ6
              clear HQ5 HQ50 HQ6
              go_wp2
              go_roundg (n - (Z.length + 1))
              case measure => omega
              case rel => exact ⟨Z ++ [(u : Int)], Q2, M2, d, _, _, _, rfl, by simp, HI2, HV2, HQ7, HM5, HB⟩
            · have hw2 : ¬ wc - 1 = 0 := by omega
              rw [Nat.add_sub_cancel] at HQ5
              clear HQ50
              go_wp2
              go_roundg (n - (Z.length + 1))
              case measure => omega
              case rel => exact ⟨Z ++ [(u : Int)], Q2, M2, d, _, _, _, rfl, by simp, HI2, HV2, HQ5, HM5, HB⟩
end Go.Proofs.Ytmgbhbdcnciccaa
