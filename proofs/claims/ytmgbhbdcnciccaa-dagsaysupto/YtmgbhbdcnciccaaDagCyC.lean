/-
  Proved here: package dag's back: the shortest way from a point back to it.
-/
import Derived.Test.YtmgbhbdcnciccaaDagPkAll
namespace Go.Proofs.Ytmgbhbdcnciccaa
set_option linter.unusedVariables false
open Go.RowKit
set_option maxRecDepth 100000 in
set_option maxHeartbeats 12800000 in
theorem backD (B0 : Nat) (S : Nat → Prop) (w : World) (rb : Nat) (a v : Value) (g go gw n : Nat) (cvs pvs : List Value) (P : List (List Int)) (Ob : List Bool) (Wt L T : List Int) (s most : Nat)
    (h : RtC B0 S w rb a v g go gw n cvs (fun j => chF P j n) Ob Wt L) (hA : RRD w a pvs P) (hn : P.length = n) (hb : n ≤ 100000) (hO : ObR n T Ob) (hs : s < n) (hsT : (s : Int) ∉ T) (hP : WfP P) (hm : most ≤ 100000) :
    Calls Try.prog 37 #[.pointer (some ⟨rb, 0, none⟩), .int .i64 (s : Int), .int .i64 (most : Int)] w fun e w' => ∃ tv, e = .returned tv ∧ (∀ c, bkF P T s most = some c → OG (Value.int .i64) w.heap.size 3 w' tv c) ∧ (bkF P T s most = none → tv = .slice none 0 0) ∧ Below w.heap.size w w' := by
  obtain ⟨i0, hi, hz0, hz1, hz2⟩ := info_parts Try.infoI
  have HR : Hid (∀ W, Below w.heap.size w W → RtC B0 S W rb a v g go gw n cvs (fun j => chF P j n) Ob Wt L) := fun W hW => h.belowD hW
  have HA : Hid (∀ W, Below w.heap.size w W → RRD W a pvs P) := fun W hW => hA.below (Nat.le_refl _) hW
  have HP : Hid (WfP P) := hP
  have HN : Hid (P.length = n) := hn
  have HST : Hid ((s : Int) ∉ T) := hsT
  have CS : Hid _ := stepsD B0 S w rb a v g go gw n cvs P Ob Wt L T s most h hn hb hO hs hsT hP hm
  have hal : pvs.length = n := by rw [hA.len]; exact hn
  obtain ⟨po, pn, pc, rfl⟩ : ∃ o n c, a = .slice o n c := by obtain ⟨ao, cap, e⟩ := hA.out.sl; exact ⟨_, _, _, e⟩
  have hpn : pn = n := by rw [← hal]; exact hA.out.len.symm
  subst hpn
  clear h hA hP hn hsT hO hal
  go_enter Try.func37, Try.ntmps37
  go_wp2_with fail
  refine Calls.mono CS.out ?_
  clear CS
  rintro e wS ⟨⟨mb, ln, nn, M, rfl, hM, hL, hlm, hl1, hmb, hex⟩ | ⟨rfl, hno⟩, hw1⟩
  · have HM : Hid (∀ W, Below wS.heap.size wS W → MpI W mb nn M) := fun W hW => hM.of_block (hW.block _ hM.lt)
    have HMX : Hid (MxP P T s M ln) := hex
    have HL : Hid (MinC P T s ln) := hL
    have HB1 : Hid (Below w.heap.size w wS) := hw1
    have hl0 := hL.1
    have hlne : ((ln : Int) == 0) = false := by simp; omega
    obtain ⟨Wy, hWy⟩ : ∃ Wy, Wy = (s : Int) :: wyF P M (ln - 1) (s : Int) := ⟨_, rfl⟩
    have HAT : Hid (∀ j, j < ln → ∃ v : Nat, Wy[j]? = some (v : Int) ∧ v < pn) := fun j hj => by
      obtain ⟨v, h1, h2, _⟩ := way_at HP.out (by rw [HN.out]; exact hs) HST.out HL.out HMX.out j hj
      exact ⟨v, by rw [hWy]; exact h1, by rw [← HN.out]; exact h2⟩
    have HSP : Hid (∀ (j : Nat) (v : Nat), j + 1 < ln → Wy[j]? = some (v : Int) → Wy[j + 1]? = some (lsF M ((ln - 1 - j : Nat) : Int) (P.getD v []))) := fun j v hj hv => by
      have := wy_step P M (ln - 1) (s : Int) j (v : Int) (by omega) (by rw [← hWy]; exact hv)
      rw [Int.toNat_natCast, ← hWy] at this
      exact this
    have HWL : Hid (Wy.length = ln) := by show _ = _; rw [hWy, List.length_cons, wyF_len]; omega
    have HBK : Hid (bkF P T s most = some Wy) := by show _ = _; rw [hWy]; exact bkF_some HL.out hlm HMX.out
    have HW0 : Hid (Wy[0]? = some (s : Int)) := by show _ = _; rw [hWy]; rfl
    obtain ⟨WT, hW2⟩ : ∃ W, W = wS.alloc (.cells #[.int .i64 (s : Int)] 3) := ⟨_, rfl⟩
    obtain ⟨g2, hg2⟩ : ∃ g, g = wS.heap.size := ⟨_, rfl⟩
    have HO2 : Hid (OG (Value.int .i64) wS.heap.size 3 WT (.slice (some ⟨g2, 0, none⟩) 1 1) (Wy.take (0 + 1))) := by
      show OG _ _ _ _ _ _
      have e1 : Wy.take (0 + 1) = [(s : Int)] := by rw [hWy]; rfl
      rw [e1, hW2, hg2]
      exact OG.lit (enc := Value.int .i64) 3 wS [(s : Int)] (by simp [maxLen])
    have HB2 : Hid (Below wS.heap.size wS WT) := by show Below _ _ _; rw [hW2]; exact belowB _ _
    have HW2 : Hid (WT = wS.alloc (.cells #[.int .i64 (s : Int)] 3)) := hW2
    have HG2 : Hid (g2 = wS.heap.size) := hg2
    clear hM hL hw1 hex hWy hW2 hg2
    go_wp2
    rw [← HW2.out, ← HG2.out]
    clear HW2 HG2
    have hlw : IntKind.i64.wrap ((ln : Int) - 1) = ((ln - 1 : Nat) : Int) := by rw [IntKind.wrap_i64]; omega
    go_wp2
    go_loopg [9, 10] ln (fun g1 v9 v10 wr => ∃ (j : Nat) (wo : Nat) (wc : Nat), v9 = .slice (some ⟨wo, 0, none⟩) (j + 1) wc ∧ v10 = .int .i64 ((ln - 1 - j : Nat) : Int) ∧ j + 1 ≤ ln ∧ ln - j ≤ g1 ∧ Hid (OG (Value.int .i64) wS.heap.size 3 wr (.slice (some ⟨wo, 0, none⟩) (j + 1) wc) (Wy.take (j + 1))) ∧ Hid (Below wS.heap.size wS wr))
    case atStart => exact ⟨0, g2, 1, rfl, by first | rfl | go_num, by omega, by omega, HO2, HB2⟩
    case round =>
      clear HO2 HB2
      obtain ⟨j, wo, wc, rfl, rfl, hjl, hg1, HO, HB⟩ := hrel
      by_cases hlt : j + 1 < ln
      · obtain ⟨q, hq⟩ : ∃ q, q = ln - 1 - j := ⟨_, rfl⟩
        have HQ : Hid (ln - 1 - j = q) := hq.symm
        have hq0 : ((q : Nat) : Int) > 0 := by omega
        obtain ⟨c, hc1, hc2⟩ := HAT.out j (by omega)
        have hnx := HSP.out j c hlt hc1
        rw [← hq] at hnx
        have HBW : Hid (Below w.heap.size w wr) := HB1.out.trans (HB.out.mono HB1.out.size)
        have HRW := HR.out w (Below.refl _ _)
        obtain ⟨d1w, _, _, _⟩ := HRW.ln.box.cells
        have HAW := HA.out w (Below.refl _ _)
        obtain ⟨x, gp, op, hx1, rfl, hx2w⟩ := HAW.out.at hc2
        have hxr := (HA.out wr HBW.out).inn c x hx1
        obtain ⟨xo, xn, xc, rfl⟩ : ∃ o n c, x = .slice o n c := by obtain ⟨ao, cap, e⟩ := hxr.sl; exact ⟨_, _, _, e⟩
        change w.cell? ⟨gp, op + c, none⟩ = some (.slice xo xn xc) at hx2w
        have d1 := keepR HBW.out d1w
        have hx2 := keepR HBW.out hx2w
        have HC1 : Hid (w.cell? ⟨rb, 0, none⟩ = some (.slice (some ⟨gp, op, none⟩) pn pc) ∧ w.cell? ⟨gp, op + c, none⟩ = some (.slice xo xn xc)) := ⟨d1w, hx2w⟩
        have HXR : Hid (∀ W, Below wr.heap.size wr W → RG (Value.int .i64) W (.slice xo xn xc) (P.getD c [])) := fun W hW => hxr.below (Nat.le_refl _) hW
        have HMW : Hid (∀ W, Below wr.heap.size wr W → MpI W mb nn M) := fun W hW => HM.out W (HB.out.trans (hW.mono HB.out.size))
        have hct : (Wy.take (j + 1))[j]? = some (c : Int) := by rw [List.getElem?_take_of_lt (by omega)]; exact hc1
        have hcw := (HO.out.cell hct).1
        obtain ⟨z, hz⟩ : ∃ z, z = lsF M (q : Int) (P.getD c []) := ⟨_, rfl⟩
        have HZ : Hid (lsF M (q : Int) (P.getD c []) = z) := hz.symm
        have HST2 : Hid (Wy.take (j + 1 + 1) = Wy.take (j + 1) ++ [z]) := by show _ = _; rw [List.take_add_one, hnx, hz]; rfl
        have HLN : Hid ((Wy.take (j + 1)).length = j + 1) := by show _ = _; rw [List.length_take, HWL.out]; omega
        have HPW : Hid (∀ x ∈ P.getD c [], ∃ p : Nat, x = (p : Int) ∧ p < 100000) := fun x hx => by
          obtain ⟨p, e, hp⟩ := HP.out c x hx
          rw [HN.out] at hp
          exact ⟨p, e, by omega⟩
        have hcp : (c : Int) < (pn : Int) := by omega
        have hjj : ¬ ((j : Nat) : Int) + 1 ≤ ((j : Nat) : Int) := by omega
        have hjw : IntKind.i64.wrap ((j : Nat) : Int) = ((j : Nat) : Int) := by rw [IntKind.wrap_i64]; omega
        clear HRW HAW hx1 hxr hct hc1 hnx hz d1w hx2w
        rw [hq.symm]
        clear hq
        go_upto_region 8 with fail
        have KEEP : ∀ u, Below wr.heap.size wr u → L4.AllL u [(5, fun w' => w'.cell? ⟨rb, 0, none⟩ = some (.slice (some ⟨gp, op, none⟩) pn pc)), (11, fun w' => w'.cell? ⟨wo, j, none⟩ = some (.int .i64 (c : Int))), (13, fun w' => w'.cell? ⟨gp, op + c, none⟩ = some (.slice xo xn xc))] := fun u hu => ⟨keepR hu d1, keepR hu hcw, keepR hu hx2, trivial⟩
        refine L4.region_late [(5, fun w' => w'.cell? ⟨rb, 0, none⟩ = some (.slice (some ⟨gp, op, none⟩) pn pc)), (11, fun w' => w'.cell? ⟨wo, j, none⟩ = some (.int .i64 (c : Int))), (13, fun w' => w'.cell? ⟨gp, op + c, none⟩ = some (.slice xo xn xc))] (by kernel_rfl) ?_
        have B : Below wr.heap.size wr wr.drew := (Below.refl _ _).drew
        obtain ⟨w1, hw1⟩ : ∃ u, u = wr.drew := ⟨_, rfl⟩
        rw [← hw1] at B ⊢
        clear hw1
        have hHeld := KEEP _ B
        refine L4.late_free 0 (v := .slice (some ⟨wo, 0, none⟩) (j + 1) wc) rfl (by kernel_rfl) (by kernel_rfl) (by kernel_rfl) (by kernel_rfl) (by kernel_rfl) (by kernel_rfl) (fun _ _ _ h => h) (Or.inl ⟨by rfl, ?_⟩) hHeld ?_
        · (intro u _; go_simp)
        (try simp only [Act.put, List.setIfInBounds_toArray, List.set_cons_zero, List.set_cons_succ])
        refine L4.late_free 1 (v := .int .i64 (q : Int)) rfl (by kernel_rfl) (by kernel_rfl) (by kernel_rfl) (by kernel_rfl) (by kernel_rfl) (by kernel_rfl) (fun _ _ _ h => h) (Or.inl ⟨by rfl, ?_⟩) hHeld ?_
        · (intro u _; go_simp)
        (try simp only [Act.put, List.setIfInBounds_toArray, List.set_cons_zero, List.set_cons_succ])
        refine L4.late_free 2 (v := .pointer (some ⟨rb, 0, none⟩)) rfl (by kernel_rfl) (by kernel_rfl) (by kernel_rfl) (by kernel_rfl) (by kernel_rfl) (by kernel_rfl) (fun _ _ _ h => h) (Or.inl ⟨by rfl, ?_⟩) hHeld ?_
        · (intro u _; go_simp)
        (try simp only [Act.put, List.setIfInBounds_toArray, List.set_cons_zero, List.set_cons_succ])
        refine L4.late_free 3 (v := .pointer (some ⟨rb, 0, none⟩)) rfl (by kernel_rfl) (by kernel_rfl) (by kernel_rfl) (by kernel_rfl) (by kernel_rfl) (by kernel_rfl) (fun _ _ _ h => h) (Or.inl ⟨by rfl, ?_⟩) hHeld ?_
        · (intro u _; go_simp)
        (try simp only [Act.put, List.setIfInBounds_toArray, List.set_cons_zero, List.set_cons_succ])
        refine L4.late_free 4 (v := .pointer (some ⟨rb, 0, none⟩)) rfl (by kernel_rfl) (by kernel_rfl) (by kernel_rfl) (by kernel_rfl) (by kernel_rfl) (by kernel_rfl) (fun _ _ _ h => h) (Or.inl ⟨by rfl, ?_⟩) hHeld ?_
        · (intro u _; go_simp)
        (try simp only [Act.put, List.setIfInBounds_toArray, List.set_cons_zero, List.set_cons_succ])
        refine L4.late_take 5 (v := .slice (some ⟨gp, op, none⟩) pn pc) rfl (by kernel_rfl) (List.Mem.head _) (by kernel_rfl) (by kernel_rfl) (by kernel_rfl) (by kernel_rfl) (fun _ _ _ h => h) (Or.inl ⟨by rfl, ?_⟩) hHeld ?_
        · (intro u hu; (try dsimp only at hu); go_split_ands; go_simp)
        (try simp only [Act.put, List.setIfInBounds_toArray, List.set_cons_zero, List.set_cons_succ])
        refine L4.late_free 6 (v := .slice (some ⟨wo, 0, none⟩) (j + 1) wc) rfl (by kernel_rfl) (by kernel_rfl) (by kernel_rfl) (by kernel_rfl) (by kernel_rfl) (by kernel_rfl) (fun _ _ _ h => h) (Or.inl ⟨by rfl, ?_⟩) hHeld ?_
        · (intro u _; go_simp)
        (try simp only [Act.put, List.setIfInBounds_toArray, List.set_cons_zero, List.set_cons_succ])
        refine L4.late_free 7 (v := .slice (some ⟨wo, 0, none⟩) (j + 1) wc) rfl (by kernel_rfl) (by kernel_rfl) (by kernel_rfl) (by kernel_rfl) (by kernel_rfl) (by kernel_rfl) (fun _ _ _ h => h) (Or.inl ⟨by rfl, ?_⟩) hHeld ?_
        · (intro u _; go_simp)
        (try simp only [Act.put, List.setIfInBounds_toArray, List.set_cons_zero, List.set_cons_succ])
        refine L4.late_free 8 (v := .int .i64 ((j + 1 : Nat) : Int)) rfl (by kernel_rfl) (by kernel_rfl) (by kernel_rfl) (by kernel_rfl) (by kernel_rfl) (by kernel_rfl) (fun _ _ _ h => h) (Or.inl ⟨by rfl, ?_⟩) hHeld ?_
        · (intro u _; go_simp)
        (try simp only [Act.put, List.setIfInBounds_toArray, List.set_cons_zero, List.set_cons_succ])
        refine L4.late_free 9 (v := .int .i64 ((j : Nat) : Int)) rfl (by kernel_rfl) (by kernel_rfl) (by kernel_rfl) (by kernel_rfl) (by kernel_rfl) (by kernel_rfl) (fun _ _ _ h => h) (Or.inl ⟨by rfl, ?_⟩) hHeld ?_
        · (intro u _; go_simp)
        (try simp only [Act.put, List.setIfInBounds_toArray, List.set_cons_zero, List.set_cons_succ])
        refine L4.late_free 10 (v := .pointer (some ⟨wo, j, none⟩)) rfl (by kernel_rfl) (by kernel_rfl) (by kernel_rfl) (by kernel_rfl) (by kernel_rfl) (by kernel_rfl) (fun _ _ _ h => h) (Or.inl ⟨by rfl, ?_⟩) hHeld ?_
        · (intro u _; go_simp)
        (try simp only [Act.put, List.setIfInBounds_toArray, List.set_cons_zero, List.set_cons_succ])
        refine L4.late_take 11 (v := .int .i64 (c : Int)) rfl (by kernel_rfl) (List.Mem.tail _ (List.Mem.head _)) (by kernel_rfl) (by kernel_rfl) (by kernel_rfl) (by kernel_rfl) (fun _ _ _ h => h) (Or.inl ⟨by rfl, ?_⟩) hHeld ?_
        · (intro u hu; (try dsimp only at hu); go_split_ands; go_simp)
        (try simp only [Act.put, List.setIfInBounds_toArray, List.set_cons_zero, List.set_cons_succ])
        refine L4.late_free 12 (v := .pointer (some ⟨gp, op + c, none⟩)) rfl (by kernel_rfl) (by kernel_rfl) (by kernel_rfl) (by kernel_rfl) (by kernel_rfl) (by kernel_rfl) (fun _ _ _ h => h) (Or.inl ⟨by rfl, ?_⟩) hHeld ?_
        · (intro u _; go_simp)
        (try simp only [Act.put, List.setIfInBounds_toArray, List.set_cons_zero, List.set_cons_succ])
        refine L4.late_take 13 (v := .slice xo xn xc) rfl (by kernel_rfl) (List.Mem.tail _ (List.Mem.tail _ (List.Mem.head _))) (by kernel_rfl) (by kernel_rfl) (by kernel_rfl) (by kernel_rfl) (fun _ _ _ h => h) (Or.inl ⟨by rfl, ?_⟩) hHeld ?_
        · (intro u hu; (try dsimp only at hu); go_split_ands; go_simp)
        (try simp only [Act.put, List.setIfInBounds_toArray, List.set_cons_zero, List.set_cons_succ])
        refine L4.late_free 14 (v := .map (some mb)) rfl (by kernel_rfl) (by kernel_rfl) (by kernel_rfl) (by kernel_rfl) (by kernel_rfl) (by kernel_rfl) (fun _ _ _ h => h) (Or.inl ⟨by rfl, ?_⟩) hHeld ?_
        · (intro u _; go_simp)
        (try simp only [Act.put, List.setIfInBounds_toArray, List.set_cons_zero, List.set_cons_succ])
        refine L4.late_step 15 (by kernel_rfl) rfl (fun K hK => ?_)
        go_simp
        refine (leastAtD w1 (q : Int) (.slice xo xn xc) (P.getD c []) mb nn M (HXR.out _ B) (HMW.out _ B) HPW.out).mono ?_
        rintro e y2 ⟨rfl, hy2⟩
        have c2 : Below w1.heap.size w1 y2 := by rw [hy2]; exact Below.refl _ _
        rw [HZ.out]
        clear hy2
        have B := B.trans (c2.mono B.size)
        clear c2 hHeld
        have hHeld := KEEP _ B
        go_wp2_with fail
        refine hK.out _ _ (L4.AllL.kept hHeld) ?_
        clear hK K
        (try simp only [Act.put, List.setIfInBounds_toArray, List.set_cons_zero, List.set_cons_succ])
        refine L4.late_step 16 (by kernel_rfl) rfl (fun K hK => ?_)
        go_simp
        obtain ⟨y3, hy3⟩ : ∃ u, u = y2.alloc (.cells #[.int .i64 z] 3) := ⟨_, rfl⟩
        obtain ⟨gb, hgb⟩ : ∃ u, u = y2.heap.size := ⟨_, rfl⟩
        rw [← hy3, ← hgb]
        have c3 : Below y2.heap.size y2 y3 := by rw [hy3]; exact belowB _ _
        have cb : y3.cell? ⟨gb, 0, none⟩ = some (.int .i64 z) := by rw [hy3, hgb, World.cell?_alloc_at _ _ _ _ rfl]; rfl
        clear hy3 hgb
        have B := B.trans (c3.mono B.size)
        clear c3 hHeld
        have hHeld := KEEP _ B
        refine hK.out _ _ (L4.AllL.kept hHeld) ?_
        clear hK K
        (try simp only [Act.put, List.setIfInBounds_toArray, List.set_cons_zero, List.set_cons_succ])
        refine L4.late_step 17 (by kernel_rfl) rfl (fun K hK => ?_)
        refine want_yesD rfl ?_
        have hown := HO.out.below B
        have hcw9 := keepR B hcw
        refine wp_pushK _ _ 24 rfl wS.heap.size 3 i0 Try.underlying24 hi hz0 hz1 hz2 wo (j + 1) wc (Wy.take (j + 1)) rfl hown gb z rfl cb (by rw [HLN.out]; omega) (Nat.le_trans HB.out.size B.size) ?_
        intro ng ncap y4 ho2 hg2 hgg hk2
        have HO2 : Hid (OG (Value.int .i64) wS.heap.size 3 y4 (.slice (some ⟨ng, 0, none⟩) (j + 1 + 1) ncap) (Wy.take (j + 1 + 1))) := by show OG _ _ _ _ _ _; rw [HST2.out]; exact ho2
        have HB2 : Hid (Below wS.heap.size wS y4) := (HB.out.trans (B.mono HB.out.size)).trans ⟨hg2.os, hg2.tape, hg2.output, hg2.size, fun qq hqq => hg2.block qq (Nat.lt_of_lt_of_le hqq (Nat.le_trans HB.out.size B.size)) (fun e => by have h1 := (HO.out.lt wo rfl).1; simp only [Option.some.injEq] at e; omega)⟩
        have HBZ : Below w.heap.size w y4 := HB1.out.trans (HB2.out.mono HB1.out.size)
        have f1 := keepR HBZ HC1.out.1
        have f3 := keepR HBZ HC1.out.2
        have f2 := (hk2 j (Nat.lt_succ_self j)).trans hcw9
        clear hHeld hown ho2 hg2 hgg hk2 cb hcw9 HBZ
        have hHeld : L4.AllL y4 [(5, fun w' => w'.cell? ⟨rb, 0, none⟩ = some (.slice (some ⟨gp, op, none⟩) pn pc)), (11, fun w' => w'.cell? ⟨wo, j, none⟩ = some (.int .i64 (c : Int))), (13, fun w' => w'.cell? ⟨gp, op + c, none⟩ = some (.slice xo xn xc))] := ⟨f1, f2, f3, trivial⟩
        refine hK.out _ _ (L4.AllL.kept hHeld) ?_
        clear hK K
        (try simp only [Act.put, List.setIfInBounds_toArray, List.set_cons_zero, List.set_cons_succ])
        refine L4.late_step 18 (by kernel_rfl) rfl (fun K hK => ?_)
        go_simp
        refine hK.out _ _ (L4.AllL.kept hHeld) ?_
        clear hK K
        (try simp only [Act.put, List.setIfInBounds_toArray, List.set_cons_zero, List.set_cons_succ])
        refine L4.late_done (by kernel_rfl) ?_ _
        clear KEEP hHeld HO HB d1 hcw hx2 f1 f2 f3 HXR HMW HST2 HLN HPW HC1 HZ
        rw [← HQ.out]
        have hqs : IntKind.i64.wrap (((ln - 1 - j : Nat) : Int) - 1) = ((ln - 1 - (j + 1) : Nat) : Int) := by rw [IntKind.wrap_i64]; omega
        go_wp2
        go_roundg (ln - (j + 1))
        case measure => omega
        case rel => exact ⟨j + 1, _, _, rfl, by first | rfl | go_num, by omega, by omega, HO2, HB2⟩
      · have hlz : ln - 1 - j = 0 := by omega
        rw [hlz]
        have HE : Hid (OG (Value.int .i64) wS.heap.size 3 wr (.slice (some ⟨wo, 0, none⟩) (j + 1) wc) Wy) := by
          have := HO.out
          rw [List.take_of_length_le (by rw [HWL.out]; omega)] at this
          exact this
        clear HO
        go_wp2
        go_ret
        exact ⟨_, rfl, fun c hc => by rw [HBK.out] at hc; simp only [Option.some.injEq] at hc; rw [← hc]; exact HE.out.mono HB1.out.size, fun hc => by rw [HBK.out] at hc; exact absurd hc (by simp), HB1.out.trans (HB.out.mono HB1.out.size)⟩
  · have HBK : Hid (bkF P T s most = none) := bkF_none hno
    have HB1 : Hid (Below w.heap.size w wS) := hw1
    clear hno hw1
    go_wp2
    go_ret
    exact ⟨_, rfl, fun c hc => by rw [HBK.out] at hc; exact absurd hc (by simp), fun _ => rfl, HB1.out⟩
end Go.Proofs.Ytmgbhbdcnciccaa
