/-
  Proved here: the law's kept: what was lent is as it was.
  Proved here, plain mathematics: what it says that they are not many.
-/
import Derived.Test.YtmgbhbdcnciccaaDagY
import Derived.Test.YtmgbhbdcnciccaaDagXAll
namespace Go.Proofs.Ytmgbhbdcnciccaa
set_option linter.unusedVariables false
open Go.RowKit
theorem sameT (u v : Value) (xs : List Int) (w : World) (hu : RG (Value.int .i64) w u xs) (hv : RG (Value.int .i64) w v xs) : Calls Try.prog 16 #[u, v] w fun e w' => e = .returned (.bool true) ∧ Below w.heap.size w w' := by
  refine Calls.mono (sameD u v xs xs w hu hv) ?_
  rintro e w' ⟨rfl, q, rfl⟩
  exact ⟨by rw [decide_eq_true rfl], below_drewN (Below.refl _ _) q⟩
set_option maxRecDepth 100000 in
set_option maxHeartbeats 6400000 in
theorem keptD (pv l full : Value) (pvs : List Value) (P : List (List Int)) (w : World) (h : RRD w pv pvs P) (n : Nat) (hn : P.length = n) (hb : n ≤ 100000) (hbl : ∀ i, (P.getD i []).length ≤ 100000) (gl lc : Nat) (fvs lvs : List Value) (m : Value) (hE : LtE w P n l full gl lc fvs lvs m) :
    Calls Try.prog 18 #[l, full, pv] w fun e w' => e = .returned (.bool true) ∧ Below w.heap.size w w' := by
  obtain ⟨po, pn, pc, rfl⟩ : ∃ o n c, pv = .slice o n c := by obtain ⟨ao, cap, e⟩ := h.out.sl; exact ⟨_, _, _, e⟩
  obtain rfl : pn = n := by rw [← hn, ← h.len, h.out.len]
  obtain rfl := hE.le
  obtain ⟨fo, fn, fc, rfl⟩ : ∃ o n c, full = .slice o n c := by obtain ⟨ao, cap, e⟩ := hE.full.out.sl; exact ⟨_, _, _, e⟩
  obtain rfl : fn = pn := by rw [← hE.full.out.len, hE.full.len, List.length_map, hn]
  have HR : Hid (RRD w (.slice po fn pc) pvs P) := h
  have HE : Hid (LtE w P fn (.slice (some ⟨gl, 0, none⟩) fn lc) (.slice fo fn fc) gl lc fvs lvs m) := hE
  have HN : Hid (P.length = fn) := hn
  have HBL : Hid (∀ i, (P.getD i []).length ≤ 100000) := hbl
  have hbr := hE.behind.room
  unfold maxLen at hbr
  clear h hE hn hbl
  go_enter Try.func18, Try.ntmps18
  go_wp2
  go_loopg [7] fn (fun g1 v7 wr => ∃ i : Nat, v7 = .int .i64 i ∧ i ≤ fn ∧ fn - i ≤ g1 ∧ Hid (Below w.heap.size w wr))
  case atStart => exact ⟨0, rfl, by omega, by omega, Below.refl _ _⟩
  case round =>
    obtain ⟨i, rfl, hin, hg1, HB⟩ := hrel
    by_cases hlt : i < fn
    · have hltz : (i : Int) < (fn : Int) := by omega
      have hR := HR.out.below (Nat.le_refl _) HB.out
      have hL := HE.out.lent.below (Nat.le_refl _) HB.out
      have hF := HE.out.full.below (Nat.le_refl _) HB.out
      obtain ⟨x, gp, op, hx1, rfl, hx2⟩ := hR.out.at hlt
      obtain ⟨y, gy, oy, hy1, hy3, hy2⟩ := hL.out.at hlt
      simp only [Option.some.injEq, Addr.mk.injEq, and_true] at hy3
      obtain ⟨rfl, rfl⟩ := hy3
      rw [Nat.zero_add] at hy2
      obtain ⟨z, gz, oz, hz1, rfl, hz2⟩ := hF.out.at hlt
      have hxr := hR.inn i x hx1
      have hyr := hL.inn i y hy1
      have hzr := hF.inn i z hz1
      have e1 : (P.map (· ++ mrks)).getD i [] = P.getD i [] ++ mrks := by
        rw [List.getD_eq_getElem?_getD, List.getD_eq_getElem?_getD, List.getElem?_map, List.getElem?_eq_getElem (by rw [HN.out]; exact hlt)]; rfl
      rw [e1] at hzr
      obtain ⟨xo, xn, xc, rfl⟩ : ∃ o n c, x = .slice o n c := by obtain ⟨ao, cap, e⟩ := hxr.sl; exact ⟨_, _, _, e⟩
      obtain ⟨yo, yn, yc, rfl⟩ : ∃ o n c, y = .slice o n c := by obtain ⟨ao, cap, e⟩ := hyr.sl; exact ⟨_, _, _, e⟩
      obtain ⟨zo, zn, zc, rfl⟩ : ∃ o n c, z = .slice o n c := by obtain ⟨ao, cap, e⟩ := hzr.sl; exact ⟨_, _, _, e⟩
      change wr.cell? ⟨gp, op + i, none⟩ = some (.slice xo xn xc) at hx2
      change wr.cell? ⟨gl, i, none⟩ = some (.slice yo yn yc) at hy2
      change wr.cell? ⟨gz, oz + i, none⟩ = some (.slice zo zn zc) at hz2
      have HXR : Hid (RG (Value.int .i64) wr (.slice xo xn xc) (P.getD i [])) := hxr
      have HYR : Hid (RG (Value.int .i64) wr (.slice yo yn yc) (P.getD i [])) := hyr
      have HZR : Hid (RG (Value.int .i64) wr (.slice zo zn zc) (P.getD i [] ++ mrks)) := hzr
      clear hR hL hF hx1 hy1 hz1 hxr hyr hzr e1
      go_upto_region 6 with fail
      have KEEP : ∀ u, Below wr.heap.size wr u → L4.AllL u [(3, fun w' => w'.cell? ⟨gz, oz + i, none⟩ = some (.slice zo zn zc)), (7, fun w' => w'.cell? ⟨gp, op + i, none⟩ = some (.slice xo xn xc)), (15, fun w' => w'.cell? ⟨gl, i, none⟩ = some (.slice yo yn yc)), (19, fun w' => w'.cell? ⟨gp, op + i, none⟩ = some (.slice xo xn xc))] := fun u hu => ⟨keepR hu hz2, keepR hu hx2, keepR hu hy2, keepR hu hx2, trivial⟩
      refine L4.region_late [(3, fun w' => w'.cell? ⟨gz, oz + i, none⟩ = some (.slice zo zn zc)), (7, fun w' => w'.cell? ⟨gp, op + i, none⟩ = some (.slice xo xn xc)), (15, fun w' => w'.cell? ⟨gl, i, none⟩ = some (.slice yo yn yc)), (19, fun w' => w'.cell? ⟨gp, op + i, none⟩ = some (.slice xo xn xc))] (by kernel_rfl) ?_
      have B : Below wr.heap.size wr wr.drew := (Below.refl _ _).drew
      obtain ⟨w4, hw4⟩ : ∃ u, u = wr.drew := ⟨_, rfl⟩
      rw [← hw4] at B ⊢
      clear hw4
      have hHeld := KEEP _ B
      refine L4.late_free 0 (v := .slice (some ⟨gz, oz, none⟩) fn fc) rfl (by kernel_rfl) (by kernel_rfl) (by kernel_rfl) (by kernel_rfl) (by kernel_rfl) (by kernel_rfl) (fun _ _ _ h => h) (Or.inl ⟨by rfl, ?_⟩) hHeld ?_
      · (intro u _; go_simp)
      (try simp only [Act.put, List.setIfInBounds_toArray, List.set_cons_zero, List.set_cons_succ])
      refine L4.late_free 1 (v := .int .i64 ((i : Nat) : Int)) rfl (by kernel_rfl) (by kernel_rfl) (by kernel_rfl) (by kernel_rfl) (by kernel_rfl) (by kernel_rfl) (fun _ _ _ h => h) (Or.inl ⟨by rfl, ?_⟩) hHeld ?_
      · (intro u _; go_simp)
      (try simp only [Act.put, List.setIfInBounds_toArray, List.set_cons_zero, List.set_cons_succ])
      refine L4.late_free 2 (v := .pointer (some ⟨gz, oz + i, none⟩)) rfl (by kernel_rfl) (by kernel_rfl) (by kernel_rfl) (by kernel_rfl) (by kernel_rfl) (by kernel_rfl) (fun _ _ _ h => h) (Or.inl ⟨by rfl, ?_⟩) hHeld ?_
      · (intro u _; go_simp)
      (try simp only [Act.put, List.setIfInBounds_toArray, List.set_cons_zero, List.set_cons_succ])
      refine L4.late_take 3 (v := .slice zo zn zc) rfl (by kernel_rfl) (List.Mem.head _) (by kernel_rfl) (by kernel_rfl) (by kernel_rfl) (by kernel_rfl) (fun _ _ _ h => h) (Or.inl ⟨by rfl, ?_⟩) hHeld ?_
      · (intro u hu; (try dsimp only at hu); go_split_ands; go_simp)
      (try simp only [Act.put, List.setIfInBounds_toArray, List.set_cons_zero, List.set_cons_succ])
      refine L4.late_free 4 (v := .slice (some ⟨gp, op, none⟩) fn pc) rfl (by kernel_rfl) (by kernel_rfl) (by kernel_rfl) (by kernel_rfl) (by kernel_rfl) (by kernel_rfl) (fun _ _ _ h => h) (Or.inl ⟨by rfl, ?_⟩) hHeld ?_
      · (intro u _; go_simp)
      (try simp only [Act.put, List.setIfInBounds_toArray, List.set_cons_zero, List.set_cons_succ])
      refine L4.late_free 5 (v := .int .i64 ((i : Nat) : Int)) rfl (by kernel_rfl) (by kernel_rfl) (by kernel_rfl) (by kernel_rfl) (by kernel_rfl) (by kernel_rfl) (fun _ _ _ h => h) (Or.inl ⟨by rfl, ?_⟩) hHeld ?_
      · (intro u _; go_simp)
      (try simp only [Act.put, List.setIfInBounds_toArray, List.set_cons_zero, List.set_cons_succ])
      refine L4.late_free 6 (v := .pointer (some ⟨gp, op + i, none⟩)) rfl (by kernel_rfl) (by kernel_rfl) (by kernel_rfl) (by kernel_rfl) (by kernel_rfl) (by kernel_rfl) (fun _ _ _ h => h) (Or.inl ⟨by rfl, ?_⟩) hHeld ?_
      · (intro u _; go_simp)
      (try simp only [Act.put, List.setIfInBounds_toArray, List.set_cons_zero, List.set_cons_succ])
      refine L4.late_take 7 (v := .slice xo xn xc) rfl (by kernel_rfl) (List.Mem.tail _ (List.Mem.head _)) (by kernel_rfl) (by kernel_rfl) (by kernel_rfl) (by kernel_rfl) (fun _ _ _ h => h) (Or.inl ⟨by rfl, ?_⟩) hHeld ?_
      · (intro u hu; (try dsimp only at hu); go_split_ands; go_simp)
      (try simp only [Act.put, List.setIfInBounds_toArray, List.set_cons_zero, List.set_cons_succ])
      refine L4.late_step 8 (by kernel_rfl) rfl (fun K hK => ?_)
      go_simp
      refine (longD _ _ _ (HXR.out.below (Nat.le_refl _) B) (by have := HBL.out i; omega)).mono ?_
      rintro e y5 ⟨gg, gc, rfl, hlg, c5⟩
      replace hlg := hlg.rg
      have B := B.trans (c5.mono B.size)
      clear c5 hHeld
      have hHeld := KEEP _ B
      go_wp2_with fail
      refine hK.out _ _ (L4.AllL.kept hHeld) ?_
      clear hK K
      (try simp only [Act.put, List.setIfInBounds_toArray, List.set_cons_zero, List.set_cons_succ])
      refine L4.late_step 9 (by kernel_rfl) rfl (fun K hK => ?_)
      go_simp
      refine (sameT _ _ _ _ (HZR.out.below (Nat.le_refl _) B) hlg).mono ?_
      rintro e y6 ⟨rfl, c6⟩
      have B := B.trans (c6.mono B.size)
      replace hlg := hlg.below (Nat.le_refl _) c6
      clear c6 hHeld
      have hHeld := KEEP _ B
      go_wp2_with fail
      refine hK.out _ _ (L4.AllL.kept hHeld) ?_
      clear hK K
      (try simp only [Act.put, List.setIfInBounds_toArray, List.set_cons_zero, List.set_cons_succ])
      refine L4.late_free 10 (v := .bool false) rfl (by kernel_rfl) (by kernel_rfl) (by kernel_rfl) (by kernel_rfl) (by kernel_rfl) (by kernel_rfl) (fun _ _ _ h => h) (Or.inl ⟨by rfl, ?_⟩) hHeld ?_
      · (intro u _; go_simp)
      (try simp only [Act.put, List.setIfInBounds_toArray, List.set_cons_zero, List.set_cons_succ])
      refine L4.late_free 11 (v := .bool false) rfl (by kernel_rfl) (by kernel_rfl) (by kernel_rfl) (by kernel_rfl) (by kernel_rfl) (by kernel_rfl) (fun _ _ _ h => h) (Or.inl ⟨by rfl, ?_⟩) hHeld ?_
      · (intro u _; go_simp)
      (try simp only [Act.put, List.setIfInBounds_toArray, List.set_cons_zero, List.set_cons_succ])
      refine L4.late_free 12 (v := .slice (some ⟨gl, 0, none⟩) fn lc) rfl (by kernel_rfl) (by kernel_rfl) (by kernel_rfl) (by kernel_rfl) (by kernel_rfl) (by kernel_rfl) (fun _ _ _ h => h) (Or.inl ⟨by rfl, ?_⟩) hHeld ?_
      · (intro u _; go_simp)
      (try simp only [Act.put, List.setIfInBounds_toArray, List.set_cons_zero, List.set_cons_succ])
      refine L4.late_free 13 (v := .int .i64 ((i : Nat) : Int)) rfl (by kernel_rfl) (by kernel_rfl) (by kernel_rfl) (by kernel_rfl) (by kernel_rfl) (by kernel_rfl) (fun _ _ _ h => h) (Or.inl ⟨by rfl, ?_⟩) hHeld ?_
      · (intro u _; go_simp)
      (try simp only [Act.put, List.setIfInBounds_toArray, List.set_cons_zero, List.set_cons_succ])
      refine L4.late_free 14 (v := .pointer (some ⟨gl, i, none⟩)) rfl (by kernel_rfl) (by kernel_rfl) (by kernel_rfl) (by kernel_rfl) (by kernel_rfl) (by kernel_rfl) (fun _ _ _ h => h) (Or.inl ⟨by rfl, ?_⟩) hHeld ?_
      · (intro u _; go_simp)
      (try simp only [Act.put, List.setIfInBounds_toArray, List.set_cons_zero, List.set_cons_succ])
      refine L4.late_take 15 (v := .slice yo yn yc) rfl (by kernel_rfl) (List.Mem.tail _ (List.Mem.tail _ (List.Mem.head _))) (by kernel_rfl) (by kernel_rfl) (by kernel_rfl) (by kernel_rfl) (fun _ _ _ h => h) (Or.inl ⟨by rfl, ?_⟩) hHeld ?_
      · (intro u hu; (try dsimp only at hu); go_split_ands; go_simp)
      (try simp only [Act.put, List.setIfInBounds_toArray, List.set_cons_zero, List.set_cons_succ])
      refine L4.late_free 16 (v := .slice (some ⟨gp, op, none⟩) fn pc) rfl (by kernel_rfl) (by kernel_rfl) (by kernel_rfl) (by kernel_rfl) (by kernel_rfl) (by kernel_rfl) (fun _ _ _ h => h) (Or.inl ⟨by rfl, ?_⟩) hHeld ?_
      · (intro u _; go_simp)
      (try simp only [Act.put, List.setIfInBounds_toArray, List.set_cons_zero, List.set_cons_succ])
      refine L4.late_free 17 (v := .int .i64 ((i : Nat) : Int)) rfl (by kernel_rfl) (by kernel_rfl) (by kernel_rfl) (by kernel_rfl) (by kernel_rfl) (by kernel_rfl) (fun _ _ _ h => h) (Or.inl ⟨by rfl, ?_⟩) hHeld ?_
      · (intro u _; go_simp)
      (try simp only [Act.put, List.setIfInBounds_toArray, List.set_cons_zero, List.set_cons_succ])
      refine L4.late_free 18 (v := .pointer (some ⟨gp, op + i, none⟩)) rfl (by kernel_rfl) (by kernel_rfl) (by kernel_rfl) (by kernel_rfl) (by kernel_rfl) (by kernel_rfl) (fun _ _ _ h => h) (Or.inl ⟨by rfl, ?_⟩) hHeld ?_
      · (intro u _; go_simp)
      (try simp only [Act.put, List.setIfInBounds_toArray, List.set_cons_zero, List.set_cons_succ])
      refine L4.late_take 19 (v := .slice xo xn xc) rfl (by kernel_rfl) (List.Mem.tail _ (List.Mem.tail _ (List.Mem.tail _ (List.Mem.head _)))) (by kernel_rfl) (by kernel_rfl) (by kernel_rfl) (by kernel_rfl) (fun _ _ _ h => h) (Or.inl ⟨by rfl, ?_⟩) hHeld ?_
      · (intro u hu; (try dsimp only at hu); go_split_ands; go_simp)
      (try simp only [Act.put, List.setIfInBounds_toArray, List.set_cons_zero, List.set_cons_succ])
      refine L4.late_step 20 (by kernel_rfl) rfl (fun K hK => ?_)
      go_simp
      refine (sameT _ _ _ _ (HYR.out.below (Nat.le_refl _) B) (HXR.out.below (Nat.le_refl _) B)).mono ?_
      rintro e y7 ⟨rfl, c7⟩
      have B := B.trans (c7.mono B.size)
      replace hlg := hlg.below (Nat.le_refl _) c7
      clear c7 hHeld
      have hHeld := KEEP _ B
      go_wp2_with fail
      refine hK.out _ _ (L4.AllL.kept hHeld) ?_
      clear hK K
      (try simp only [Act.put, List.setIfInBounds_toArray, List.set_cons_zero, List.set_cons_succ])
      refine L4.late_free 21 (v := .bool false) rfl (by kernel_rfl) (by kernel_rfl) (by kernel_rfl) (by kernel_rfl) (by kernel_rfl) (by kernel_rfl) (fun _ _ _ h => h) (Or.inl ⟨by rfl, ?_⟩) hHeld ?_
      · (intro u _; go_simp)
      (try simp only [Act.put, List.setIfInBounds_toArray, List.set_cons_zero, List.set_cons_succ])
      refine L4.late_free 22 (v := .bool false) rfl (by kernel_rfl) (by kernel_rfl) (by kernel_rfl) (by kernel_rfl) (by kernel_rfl) (by kernel_rfl) (fun _ _ _ h => h) (Or.inl ⟨by rfl, ?_⟩) hHeld ?_
      · (intro u _; go_simp)
      (try simp only [Act.put, List.setIfInBounds_toArray, List.set_cons_zero, List.set_cons_succ])
      refine L4.late_done (by kernel_rfl) ?_ _
      clear hHeld KEEP
      have HB2 : Hid (Below w.heap.size w y7) := HB.out.trans (B.mono HB.out.size)
      clear B hx2 hy2 hz2 HXR HYR HZR HB hlg
      go_wp2
      go_roundg (fn - (i + 1))
      case measure => omega
      case rel => exact ⟨i + 1, by first | rfl | go_num, by omega, Nat.le_refl _, HB2⟩
    · have hltz : ¬ (i : Int) < (fn : Int) := by omega
      obtain rfl : i = fn := by omega
      have hbh := HE.out.behind.below (Nat.le_refl _) HB.out
      have hmk := HE.out.mark.below (Nat.le_refl _) HB.out
      obtain ⟨y, gy, oy, hy1, hy3, hy2⟩ := hbh.at (show i < i + 1 by omega)
      simp only [Option.some.injEq, Addr.mk.injEq, and_true] at hy3
      obtain ⟨rfl, rfl⟩ := hy3
      rw [Nat.zero_add] at hy2
      have hll : lvs.length = i := by rw [HE.out.lent.len, HN.out]
      rw [List.getElem?_append_right (by rw [hll]; exact Nat.le_refl _), hll, Nat.sub_self] at hy1
      have hym : y = m := by simpa using hy1.symm
      subst hym
      obtain ⟨mo, mn, mc, rfl⟩ : ∃ o n c, y = .slice o n c := by obtain ⟨ao, cap, e⟩ := hmk.sl; exact ⟨_, _, _, e⟩
      have hmn : 1 = mn := hmk.len
      subst hmn
      change wr.cell? ⟨gl, i, none⟩ = some (.slice mo 1 mc) at hy2
      obtain ⟨k, gk, ok, hk1, rfl, hk2⟩ := hmk.at (show 0 < 1 by omega)
      have hk77 : k = -77 := by simpa using hk1.symm
      subst hk77
      rw [Nat.add_zero] at hk2
      have hb1 : (i : Int) + 1 ≤ (lc : Int) := by omega
      have hb2 : (i : Int) < (i : Int) + 1 := by omega
      have hb4 : (i : Int) < ((i + 1 : Nat) : Int) := by omega
      have hb5 : ((i + 1 : Nat) : Int) ≤ (lc : Int) := by omega
      clear hbh hmk hy1 hll hk1
      go_wp2
      go_ret
      exact ⟨rfl, HB.out⟩
end Go.Proofs.Ytmgbhbdcnciccaa

namespace Go.Proofs.Ytmgbhbdcnciccaa
set_option linter.unusedVariables false
theorem len_smB (P : List (List Int)) (i : Nat) : (P.getD i []).length ≤ smL P P.length := by
  by_cases h : i < P.length
  · have := smL_mono (P := P) (show i + 1 ≤ P.length by omega)
    simp only [smL] at this
    omega
  · rw [List.getD_eq_getElem?_getD, List.getElem?_eq_none (by omega)]; simp
theorem many_noB {P : List (List Int)} (h : manyB P = false) : P.length ≤ 200 ∧ smL P P.length ≤ 2000 := by
  unfold manyB at h
  rw [Bool.or_eq_false_iff] at h
  have h1 := of_decide_eq_false h.1
  have h2 := of_decide_eq_false h.2
  omega
end Go.Proofs.Ytmgbhbdcnciccaa
