/-
  Proved here: layer 17's law: long, lent.
-/
import Derived.Test.YthdpomgpcblpeaaGreatMoMAll
import Derived.Test.YthdpomgpcblpeaaGreatSpLAll
import Derived.Test.YthdpomgpcblpeaaGreatDagCyCAll
namespace Go.Proofs.YthdpomgpcblpeaaGreat
set_option linter.unusedVariables false
open Go.RowKit
set_option maxRecDepth 100000 in
set_option maxHeartbeats 1600000 in
theorem long17 (v : Value) (zs : List Int) (w : World) (hv : RG (Value.int .i64) w v zs) (hl : zs.length ≤ 1048576) :
    Calls Tryz.prog 8 #[v] w fun e w' => ∃ g cap, e = .returned (.slice (some ⟨g, 0, none⟩) (zs.length + 6) cap) ∧ OG (Value.int .i64) w.heap.size 3 w' (.slice (some ⟨g, 0, none⟩) (zs.length + 6) cap) (zs ++ mrks) ∧ Below w.heap.size w w' := by
  obtain ⟨i0, hi, hz0, hz1, hz2⟩ := info_parts Tryz.infoI
  obtain ⟨vo, vn, vc, rfl⟩ : ∃ o n c, v = .slice o n c := by obtain ⟨ao, cap, e⟩ := hv.sl; exact ⟨_, _, _, e⟩
  have HV : Hid (RG (Value.int .i64) w (.slice vo vn vc) zs) := hv
  have HL : Hid (zs.length ≤ 1048576) := hl
  clear hv hl
  go_enter Tryz.func8, Tryz.ntmps8
  go_upto_region 3 with (at_builtin; refine wpList_appG _ (fun _ => rfl) rfl _ _ 23 rfl w.heap.size 3 i0 (.int .i64 0) 8 Tryz.underlying23 hi hz0 hz1 hz2 rfl _ _ [] zs rfl (OG.nil _ _ _) rfl HV.out (by have := HL.out; unfold maxLen; simp; omega) (by have := HL.out; simp; omega) (Nat.le_refl _) ?_)
  intro v0 y0 ho0 hg0
  try rw [List.nil_append] at ho0
  have HO : Hid (OG (Value.int .i64) w.heap.size 3 y0 v0 zs) := ho0
  have HB : Hid (Below w.heap.size w y0) := ⟨hg0.os, hg0.tape, hg0.output, hg0.size, fun q hq => hg0.block q hq (by simp [Value.ownBlock])⟩
  obtain ⟨o0, n0, c0, rfl⟩ : ∃ o n c, v0 = .slice o n c := by obtain ⟨ao, cap, e, -⟩ := ho0.sl; exact ⟨_, _, _, e⟩
  obtain ⟨WA, hWA⟩ : ∃ W, W = y0.alloc (.cells #[.int .i64 (-90), .int .i64 (-91), .int .i64 (-92), .int .i64 (-93), .int .i64 (-94), .int .i64 (-95)] 3) := ⟨_, rfl⟩
  obtain ⟨gb, hgb⟩ : ∃ g, g = y0.heap.size := ⟨_, rfl⟩
  have HBA : Hid (Below y0.heap.size y0 WA) := by show Below _ _ _; rw [hWA]; exact belowB _ _
  have HRM : Hid (RG (Value.int .i64) WA (.slice (some ⟨gb, 0, none⟩) 6 6) mrks) := by
    have := OG.lit (enc := Value.int .i64) 3 y0 mrks (by unfold maxLen mrks; simp)
    rw [hWA, hgb]
    exact this.rg
  have HWA : Hid (WA = y0.alloc (.cells #[.int .i64 (-90), .int .i64 (-91), .int .i64 (-92), .int .i64 (-93), .int .i64 (-94), .int .i64 (-95)] 3)) := hWA
  have HGB : Hid (gb = y0.heap.size) := hgb
  clear ho0 hg0 hWA hgb
  go_wp2_with (at_builtin; rw [← HWA.out, ← HGB.out]; refine wpList_appG _ (fun _ => rfl) rfl _ _ 23 rfl w.heap.size 3 i0 (.int .i64 0) 8 Tryz.underlying23 hi hz0 hz1 hz2 rfl _ _ zs mrks rfl (HO.out.below HBA.out) rfl HRM.out (by have := HL.out; unfold maxLen mrks; simp; omega) (by have := HL.out; unfold mrks; simp; omega) (Nat.le_trans HB.out.size HBA.out.size) ?_)
  intro v1 y1 ho1 hg1
  have HB1 : Hid (Below w.heap.size w y1) := (bstepB HB.out HBA.out).trans ⟨hg1.os, hg1.tape, hg1.output, hg1.size, fun q hq => hg1.block q (Nat.lt_of_lt_of_le hq (Nat.le_trans HB.out.size HBA.out.size)) (fun e => by have := (HO.out.lt q e.symm).1; omega)⟩
  obtain ⟨ao, cap, rfl, hsm, -⟩ := ho1.sl
  obtain ⟨g, -, rfl⟩ := hsm (by simp [mrks])
  have hln : (zs ++ mrks).length = zs.length + 6 := by simp [mrks]
  rw [hln] at ho1 ⊢
  have HO1 : Hid (OG (Value.int .i64) w.heap.size 3 y1 (.slice (some ⟨g, 0, none⟩) (zs.length + 6) cap) (zs ++ mrks)) := ho1
  clear ho1 hg1 hln hsm
  go_wp2
  go_ret
  exact ⟨g, cap, rfl, HO1.out, HB1.out⟩
/-- How memory stands while lists are lent. -/
structure LsI (w W : World) (P : List (List Int)) (i : Nat) (vL : Value) (lvs : List Value) : Prop where
  lent : OG id w.heap.size 23 W vL lvs
  llen : lvs.length = i
  each : ∀ j, j < i → ∃ g cap, lvs[j]? = some (.slice (some ⟨g, 0, none⟩) (P.getD j []).length cap) ∧ OG (Value.int .i64) w.heap.size 3 W (.slice (some ⟨g, 0, none⟩) ((P.getD j []).length + 6) cap) (P.getD j [] ++ mrks)
  frm : Below w.heap.size w W
theorem LsI.below {w W W' : World} {P : List (List Int)} {i : Nat} {vL : Value} {lvs : List Value} (h : LsI w W P i vL lvs) (b : Below W.heap.size W W') : LsI w W' P i vL lvs :=
  ⟨h.lent.below b, h.llen, fun j hj => by obtain ⟨g, cap, h1, h2⟩ := h.each j hj; exact ⟨g, cap, h1, h2.below b⟩, bstepB h.frm b⟩
theorem own_newL {ng m cap : Nat} {v : Value} {s : Nat} (h : v.ownBlock = some ng ∨ ng = s) : ∀ q, (Value.slice (some ⟨ng, 0, none⟩) m cap).ownBlock = some q → v.ownBlock = some q ∨ s ≤ q := fun q hq => by
  have e1 : ng = q := by simpa [Value.ownBlock] using hq
  subst e1
  exact h.imp id (fun e => by omega)
theorem LsI.push {w W W2 : World} {vL vL' : Value} {lvs lvs' : List Value} (hL : OG id w.heap.size 23 W vL lvs) (hfr : Below w.heap.size w W) (hg : W.grownBy W2 vL.ownBlock) :
    (∀ v L, OG (Value.int .i64) w.heap.size 3 W v L → OG (Value.int .i64) w.heap.size 3 W2 v L) ∧ Below w.heap.size w W2 :=
  ⟨fun v L hv => hv.of_blocks fun q hq => hg.block q (hv.lt q hq).2 (fun e => hv.neO hL (by decide) hq e.symm), hfr.trans ⟨hg.os, hg.tape, hg.output, hg.size, fun q hq => hg.block q (Nat.lt_of_lt_of_le hq hfr.size) (fun e => by have := (hL.lt q e.symm).1; omega)⟩⟩
/-- What lent leaves: all that is lent can be read, what lies behind too. -/
structure LsE (B : Nat) (w : World) (P : List (List Int)) (n gl lc : Nat) (lvs : List Value) (m : Value) : Prop where
  behind : RG id w (.slice (some ⟨gl, 0, none⟩) (n + 1) lc) (lvs ++ [m])
  mark : RG (Value.int .i64) w m [-77]
  own : OwR B w (.slice (some ⟨gl, 0, none⟩) n lc) lvs P
  far : ∀ j, j < n → ∃ g cap, lvs[j]? = some (.slice (some ⟨g, 0, none⟩) (P.getD j []).length cap) ∧ RG (Value.int .i64) w (.slice (some ⟨g, 0, none⟩) ((P.getD j []).length + 6) cap) (P.getD j [] ++ mrks)
theorem LsE.below {B : Nat} {w w' : World} {P : List (List Int)} {n gl lc : Nat} {lvs : List Value} {m : Value} (h : LsE B w P n gl lc lvs m) (b : Below w.heap.size w w') : LsE B w' P n gl lc lvs m :=
  ⟨h.behind.below (Nat.le_refl _) b, h.mark.below (Nat.le_refl _) b, h.own.below b, fun j hj => by obtain ⟨g, cap, h1, h2⟩ := h.far j hj; exact ⟨g, cap, h1, h2.below (Nat.le_refl _) b⟩⟩
set_option maxRecDepth 100000 in
set_option maxHeartbeats 12800000 in
theorem lent17 (pv : Value) (pvs : List Value) (P : List (List Int)) (w : World) (h : RRD w pv pvs P) (n : Nat) (hn : P.length = n) (hb : n ≤ 100000) (hbl : ∀ i, (P.getD i []).length ≤ 100000) :
    Calls Tryz.prog 7 #[pv] w fun e w' => ∃ gl lc, e = .returned (.slice (some ⟨gl, 0, none⟩) n lc) ∧ (∃ lvs m, LsE w.heap.size w' P n gl lc lvs m) ∧ Below w.heap.size w w' := by
  obtain ⟨i1, hi1, ha0, ha1, ha2⟩ := info_parts Tryz.infoRD
  obtain ⟨po, pn, pc, rfl⟩ : ∃ o n c, pv = .slice o n c := by obtain ⟨ao, cap, e⟩ := h.out.sl; exact ⟨_, _, _, e⟩
  obtain rfl : pn = n := by rw [← hn, ← h.len, h.out.len]
  have HR : Hid (RRD w (.slice po pn pc) pvs P) := h
  have HN : Hid (P.length = pn) := hn
  have HBL : Hid (∀ i, (P.getD i []).length ≤ 100000) := hbl
  clear h hn hbl
  go_enter Tryz.func7, Tryz.ntmps7
  go_wp2
  go_loopg [3, 4] pn (fun g1 v3 v4 wr => ∃ (i : Nat) (lo : Option Addr) (ln lc : Nat) (lvs : List Value), v3 = .slice lo ln lc ∧ v4 = .int .i64 i ∧ i ≤ pn ∧ pn - i ≤ g1 ∧ Hid (LsI w wr P i (.slice lo ln lc) lvs))
  case atStart => exact ⟨0, none, 0, 0, [], rfl, rfl, by omega, by omega, ⟨OG.nil _ _ _, rfl, fun j hj => by omega, Below.refl _ _⟩⟩
  case round =>
    obtain ⟨i, lo, ln, lc, lvs, rfl, rfl, hin, hg1, HI⟩ := hrel
    by_cases hlt : i < pn
    · have hltz : (i : Int) < (pn : Int) := by omega
      obtain ⟨x, gp, op, hx1, rfl, hx0⟩ := HR.out.out.at hlt
      have hxr := HR.out.inn i x hx1
      obtain ⟨xo, xn, xc, rfl⟩ : ∃ o n c, x = .slice o n c := by obtain ⟨ao, cap, e⟩ := hxr.sl; exact ⟨_, _, _, e⟩
      change w.cell? ⟨gp, op + i, none⟩ = some (.slice xo xn xc) at hx0
      have HX0 : Hid (w.cell? ⟨gp, op + i, none⟩ = some (.slice xo xn xc)) := hx0
      have hxl : (P.getD i []).length = xn := hxr.len
      have hxb : xn ≤ 100000 := by rw [← hxl]; exact HBL.out i
      have CL : Hid (∀ W, Below wr.heap.size wr W → Calls Tryz.prog 8 #[.slice xo xn xc] W fun e w' => ∃ g cap, e = .returned (.slice (some ⟨g, 0, none⟩) (xn + 6) cap) ∧ OG (Value.int .i64) W.heap.size 3 w' (.slice (some ⟨g, 0, none⟩) (xn + 6) cap) (P.getD i [] ++ mrks) ∧ Below W.heap.size W w') := fun W hW => by
        have h1 := long17 _ _ W (hxr.below (Nat.le_refl _) (bstepB HI.out.frm hW)) (by rw [hxl]; omega)
        rw [hxl] at h1
        exact h1
      have HXL : Hid ((P.getD i []).length = xn) := hxl
      have hx2 : wr.cell? ⟨gp, op + i, none⟩ = some (.slice xo xn xc) := keepR HI.out.frm HX0.out
      clear hxr hx1 hx0 hxl
      go_upto_region 5 with fail
      have KEEP : ∀ u, Below wr.heap.size wr u → L4.AllL u [(4, fun w' => w'.cell? ⟨gp, op + i, none⟩ = some (.slice xo xn xc)), (9, fun w' => w'.cell? ⟨gp, op + i, none⟩ = some (.slice xo xn xc))] := fun u hu => ⟨keepR hu hx2, keepR hu hx2, trivial⟩
      refine L4.region_late [(4, fun w' => w'.cell? ⟨gp, op + i, none⟩ = some (.slice xo xn xc)), (9, fun w' => w'.cell? ⟨gp, op + i, none⟩ = some (.slice xo xn xc))] (by kernel_rfl) ?_
      have B : Below wr.heap.size wr wr.drew := (Below.refl _ _).drew
      obtain ⟨w1, hw1⟩ : ∃ u, u = wr.drew := ⟨_, rfl⟩
      rw [← hw1] at B ⊢
      clear hw1
      have hHeld := KEEP _ B
      refine L4.late_free 0 (v := .slice lo ln lc) rfl (by kernel_rfl) (by kernel_rfl) (by kernel_rfl) (by kernel_rfl) (by kernel_rfl) (by kernel_rfl) (fun _ _ _ h => h) (Or.inl ⟨by rfl, ?_⟩) hHeld ?_
      · (intro u _; go_simp)
      (try simp only [Act.put, List.setIfInBounds_toArray, List.set_cons_zero, List.set_cons_succ])
      refine L4.late_free 1 (v := .slice (some ⟨gp, op, none⟩) pn pc) rfl (by kernel_rfl) (by kernel_rfl) (by kernel_rfl) (by kernel_rfl) (by kernel_rfl) (by kernel_rfl) (fun _ _ _ h => h) (Or.inl ⟨by rfl, ?_⟩) hHeld ?_
      · (intro u _; go_simp)
      (try simp only [Act.put, List.setIfInBounds_toArray, List.set_cons_zero, List.set_cons_succ])
      refine L4.late_free 2 (v := .int .i64 ((i : Nat) : Int)) rfl (by kernel_rfl) (by kernel_rfl) (by kernel_rfl) (by kernel_rfl) (by kernel_rfl) (by kernel_rfl) (fun _ _ _ h => h) (Or.inl ⟨by rfl, ?_⟩) hHeld ?_
      · (intro u _; go_simp)
      (try simp only [Act.put, List.setIfInBounds_toArray, List.set_cons_zero, List.set_cons_succ])
      refine L4.late_free 3 (v := .pointer (some ⟨gp, op + i, none⟩)) rfl (by kernel_rfl) (by kernel_rfl) (by kernel_rfl) (by kernel_rfl) (by kernel_rfl) (by kernel_rfl) (fun _ _ _ h => h) (Or.inl ⟨by rfl, ?_⟩) hHeld ?_
      · (intro u _; go_simp)
      (try simp only [Act.put, List.setIfInBounds_toArray, List.set_cons_zero, List.set_cons_succ])
      refine L4.late_take 4 (v := .slice xo xn xc) rfl (by kernel_rfl) (List.Mem.head _) (by kernel_rfl) (by kernel_rfl) (by kernel_rfl) (by kernel_rfl) (fun _ _ _ h => h) (Or.inl ⟨by rfl, ?_⟩) hHeld ?_
      · (intro u hu; (try dsimp only at hu); go_split_ands; go_simp)
      (try simp only [Act.put, List.setIfInBounds_toArray, List.set_cons_zero, List.set_cons_succ])
      refine L4.late_free 6 (v := .slice (some ⟨gp, op, none⟩) pn pc) rfl (by kernel_rfl) (by kernel_rfl) (by kernel_rfl) (by kernel_rfl) (by kernel_rfl) (by kernel_rfl) (fun _ _ _ h => h) (Or.inl ⟨by rfl, ?_⟩) hHeld ?_
      · (intro u _; go_simp)
      (try simp only [Act.put, List.setIfInBounds_toArray, List.set_cons_zero, List.set_cons_succ])
      refine L4.late_free 7 (v := .int .i64 ((i : Nat) : Int)) rfl (by kernel_rfl) (by kernel_rfl) (by kernel_rfl) (by kernel_rfl) (by kernel_rfl) (by kernel_rfl) (fun _ _ _ h => h) (Or.inl ⟨by rfl, ?_⟩) hHeld ?_
      · (intro u _; go_simp)
      (try simp only [Act.put, List.setIfInBounds_toArray, List.set_cons_zero, List.set_cons_succ])
      refine L4.late_free 8 (v := .pointer (some ⟨gp, op + i, none⟩)) rfl (by kernel_rfl) (by kernel_rfl) (by kernel_rfl) (by kernel_rfl) (by kernel_rfl) (by kernel_rfl) (fun _ _ _ h => h) (Or.inl ⟨by rfl, ?_⟩) hHeld ?_
      · (intro u _; go_simp)
      (try simp only [Act.put, List.setIfInBounds_toArray, List.set_cons_zero, List.set_cons_succ])
      refine L4.late_take 9 (v := .slice xo xn xc) rfl (by kernel_rfl) (List.Mem.tail _ (List.Mem.head _)) (by kernel_rfl) (by kernel_rfl) (by kernel_rfl) (by kernel_rfl) (fun _ _ _ h => h) (Or.inl ⟨by rfl, ?_⟩) hHeld ?_
      · (intro u hu; (try dsimp only at hu); go_split_ands; go_simp)
      (try simp only [Act.put, List.setIfInBounds_toArray, List.set_cons_zero, List.set_cons_succ])
      refine L4.late_free 10 (v := .int .i64 ((xn : Nat) : Int)) rfl (by kernel_rfl) (by kernel_rfl) (by kernel_rfl) (by kernel_rfl) (by kernel_rfl) (by kernel_rfl) (fun _ _ _ h => h) (Or.inl ⟨by rfl, ?_⟩) hHeld ?_
      · (intro u _; go_simp)
      (try simp only [Act.put, List.setIfInBounds_toArray, List.set_cons_zero, List.set_cons_succ])
      refine L4.late_step 5 (by kernel_rfl) rfl (fun K hK => ?_)
      go_simp
      refine (CL.out _ B).mono ?_
      rintro e y2 ⟨g, cap, rfl, hy1, c2⟩
      replace hy1 := hy1.mono (Nat.le_trans HI.out.frm.size B.size)
      have hcap : xn ≤ cap := by have := hy1.rg.room.1; omega
      have hcz : (xn : Int) ≤ (cap : Int) := by omega
      have hcz2 : xn ≤ xn + 6 := by omega
      have B := B.trans (c2.mono B.size)
      clear c2 hHeld
      have hHeld := KEEP _ B
      go_wp2_with fail
      refine hK.out _ _ (L4.AllL.kept hHeld) ?_
      clear hK K
      (try simp only [Act.put, List.setIfInBounds_toArray, List.set_cons_zero, List.set_cons_succ])
      refine L4.late_free 11 (v := .slice (some ⟨g, 0, none⟩) xn cap) rfl (by kernel_rfl) (by kernel_rfl) (by kernel_rfl) (by kernel_rfl) (by kernel_rfl) (by kernel_rfl) (fun _ _ _ h => h) (Or.inl ⟨by rfl, ?_⟩) hHeld ?_
      · (intro u _; go_simp)
      (try simp only [Act.put, List.setIfInBounds_toArray, List.set_cons_zero, List.set_cons_succ])
      refine L4.late_step 12 (by kernel_rfl) rfl (fun K hK => ?_)
      go_simp
      obtain ⟨y3, hy3⟩ : ∃ u, u = y2.alloc (.cells #[.slice (some ⟨g, 0, none⟩) xn cap] 23) := ⟨_, rfl⟩
      obtain ⟨gb, hgb⟩ : ∃ u, u = y2.heap.size := ⟨_, rfl⟩
      rw [← hy3, ← hgb]
      have c3 : Below y2.heap.size y2 y3 := by rw [hy3]; exact belowB _ _
      have cb : y3.cell? ⟨gb, 0, none⟩ = some (id (.slice (some ⟨g, 0, none⟩) xn cap)) := by rw [hy3, hgb, World.cell?_alloc_at _ _ _ _ rfl]; rfl
      clear hy3 hgb
      have B := B.trans (c3.mono B.size)
      replace hy1 := hy1.below c3
      clear c3 hHeld
      have hHeld := KEEP _ B
      refine hK.out _ _ (L4.AllL.kept hHeld) ?_
      clear hK K
      (try simp only [Act.put, List.setIfInBounds_toArray, List.set_cons_zero, List.set_cons_succ])
      refine L4.late_step 13 (by kernel_rfl) rfl (fun K hK => ?_)
      refine want_yesD rfl ?_
      have HI2 : Hid (LsI w y3 P i (.slice lo ln lc) lvs) := HI.out.below B
      have hown' : y3.ownsRow w.heap.size 23 1 (.slice lo ln lc) lvs.length (lvs.map id) := HI2.out.lent
      refine wp_append_lies _ _ _ 22 rfl w.heap.size 23 i1 (.slice none 0 0) 1 24 Tryz.underlying22 hi1 ha0 ha1 ha2 rfl (by decide) (.slice lo ln lc) lvs.length _ rfl hown' ⟨gb, 0, none⟩ 1 1 [id (.slice (some ⟨g, 0, none⟩) xn cap)] rfl rfl (fun j u hj => by match j, hj with | 0, hj => simp at hj; subst hj; rw [Addr.add_lit, Nat.add_zero]; exact cb) (by intro u hu; simp at hu; subst hu; rfl) (by decide) (by have := HI.out.llen; unfold maxLen; omega) (by have := HI.out.llen; omega) HI2.out.frm.size _ rfl ?_
      intro ng ncap y4 ho2 hg2 hgg hlt9
      have HO2 : Hid (OG id w.heap.size 23 y4 (.slice (some ⟨ng, 0, none⟩) (lvs.length + 1) ncap) (lvs ++ [.slice (some ⟨g, 0, none⟩) xn cap])) := by show OG _ _ _ _ _ _; unfold OG; rw [List.length_append, List.map_append]; exact ho2
      obtain ⟨q3, q4⟩ := LsI.push (lvs' := lvs) (vL' := .slice lo ln lc) HI2.out.lent HI2.out.frm hg2
      have HK3 : Hid (∀ v L, OG (Value.int .i64) w.heap.size 3 y3 v L → OG (Value.int .i64) w.heap.size 3 y4 v L) := q3
      have HF4 : Hid (Below w.heap.size w y4) := q4
      have HGB : Hid (OG (Value.int .i64) w.heap.size 3 y4 (.slice (some ⟨g, 0, none⟩) (xn + 6) cap) (P.getD i [] ++ mrks)) := q3 _ _ hy1
      have hx9 : y4.cell? ⟨gp, op + i, none⟩ = some (.slice xo xn xc) := keepR q4 HX0.out
      clear hHeld hown' ho2 hg2 hgg hlt9 B cb q3 q4 hy1
      have hHeld : L4.AllL y4 [(4, fun w' => w'.cell? ⟨gp, op + i, none⟩ = some (.slice xo xn xc)), (9, fun w' => w'.cell? ⟨gp, op + i, none⟩ = some (.slice xo xn xc))] := ⟨hx9, hx9, trivial⟩
      refine hK.out _ _ (L4.AllL.kept hHeld) ?_
      clear hK K
      (try simp only [Act.put, List.setIfInBounds_toArray, List.set_cons_zero, List.set_cons_succ])
      refine L4.late_step 14 (by kernel_rfl) rfl (fun K hK => ?_)
      go_simp
      refine hK.out _ _ (L4.AllL.kept hHeld) ?_
      clear hK K
      (try simp only [Act.put, List.setIfInBounds_toArray, List.set_cons_zero, List.set_cons_succ])
      refine L4.late_done (by kernel_rfl) ?_ _
      have HI3 : Hid (LsI w y4 P (i + 1) (.slice (some ⟨ng, 0, none⟩) (lvs.length + 1) ncap) (lvs ++ [.slice (some ⟨g, 0, none⟩) xn cap])) := by
        refine ⟨HO2.out, by rw [List.length_append, HI2.out.llen]; rfl, fun j hj => ?_, HF4.out⟩
        by_cases e : j < i
        · obtain ⟨g', cap', h2, h3⟩ := HI2.out.each j e
          refine ⟨g', cap', ?_, HK3.out _ _ h3⟩
          rw [List.getElem?_append_left (by rw [HI2.out.llen]; exact e)]; exact h2
        · obtain rfl : j = i := by omega
          refine ⟨g, cap, ?_, ?_⟩
          · rw [HXL.out, List.getElem?_append_right (by rw [HI2.out.llen]; exact Nat.le_refl _), HI2.out.llen, Nat.sub_self]; rfl
          · rw [HXL.out]; exact HGB.out
      clear KEEP hHeld hx9 hx2 HI HI2 HO2 HK3 HF4 HGB CL
      go_wp2
      go_roundg (pn - (i + 1))
      case measure => omega
      case rel => exact ⟨i + 1, _, _, _, _, rfl, by first | rfl | go_num, by omega, Nat.le_refl _, HI3⟩
    · have hltz : ¬ (i : Int) < (pn : Int) := by omega
      obtain rfl : i = pn := by omega
      obtain ⟨WA, hWA⟩ : ∃ W, W = wr.alloc (.cells #[.int .i64 (-77)] 3) := ⟨_, rfl⟩
      obtain ⟨gm, hgm⟩ : ∃ g, g = wr.heap.size := ⟨_, rfl⟩
      have hBA : Below wr.heap.size wr WA := by rw [hWA]; exact belowB _ _
      have hm1 : OG (Value.int .i64) w.heap.size 3 WA (.slice (some ⟨gm, 0, none⟩) 1 1) [-77] := by
        have := OG.lit (enc := Value.int .i64) 3 wr [-77] (by unfold maxLen; simp)
        rw [hWA, hgm]
        exact this.mono HI.out.frm.size
      obtain ⟨WB, hWB⟩ : ∃ W, W = WA.alloc (.cells #[.slice (some ⟨gm, 0, none⟩) 1 1] 23) := ⟨_, rfl⟩
      obtain ⟨gb, hgb⟩ : ∃ g, g = WA.heap.size := ⟨_, rfl⟩
      have hBB : Below WA.heap.size WA WB := by rw [hWB]; exact belowB _ _
      have HIB : Hid (LsI w WB P i (.slice lo ln lc) lvs) := (HI.out.below hBA).below hBB
      have HMB : Hid (OG (Value.int .i64) w.heap.size 3 WB (.slice (some ⟨gm, 0, none⟩) 1 1) [-77]) := hm1.below hBB
      have HCB : Hid (WB.cell? ⟨gb, 0, none⟩ = some (id (.slice (some ⟨gm, 0, none⟩) 1 1))) := by show _ = _; rw [hWB, hgb, World.cell?_alloc_at _ _ _ _ rfl]; rfl
      have HWA : Hid (WA = wr.alloc (.cells #[.int .i64 (-77)] 3)) := hWA
      have HGM : Hid (gm = wr.heap.size) := hgm
      have HWB : Hid (WB = WA.alloc (.cells #[.slice (some ⟨gm, 0, none⟩) 1 1] 23)) := hWB
      have HGB : Hid (gb = wr.heap.size + 1) := by show _ = _; rw [hgb, hWA]; simp
      clear hWA hgm hWB hgb hBA hBB hm1 HI
      go_upto_region 10 with (at_builtin; rw [← HGB.out, ← HGM.out, ← HWA.out, ← HWB.out]; refine wpList_pushV (enc := id) _ rfl _ _ 22 rfl w.heap.size 23 i1 (.slice none 0 0) 24 Tryz.underlying22 hi1 ha0 ha1 ha2 rfl _ lvs rfl HIB.out.lent gb (.slice (some ⟨gm, 0, none⟩) 1 1) rfl HCB.out rfl (by have := HIB.out.llen; unfold maxLen; omega) (by have := HIB.out.llen; omega) HIB.out.frm.size ?_)
      intro ng tm ncap W3 ho hg3 hng _
      obtain ⟨q3, q4⟩ := LsI.push (lvs' := lvs) (vL' := .slice lo ln lc) HIB.out.lent HIB.out.frm hg3
      have htm : tm = i + 1 := by have := ho.rg.len; rw [List.length_append, HIB.out.llen] at this; exact this.symm
      subst htm
      have hnc := ho.rg.room.1
      have hncz : (i : Int) ≤ (ncap : Int) := by omega
      have HE : Hid (LsE w.heap.size W3 P i ng ncap lvs (.slice (some ⟨gm, 0, none⟩) 1 1)) := by
        refine ⟨ho.rg, (q3 _ _ HMB.out).rg, ⟨?_, by rw [HIB.out.llen, HN.out], fun j u hu => ?_⟩, fun j hj => ?_⟩
        · have h1 := ho.cutD (m := i) (by rw [List.length_append, HIB.out.llen]; omega)
          rw [List.take_left' HIB.out.llen] at h1
          exact h1
        · have hj : j < i := by have := (List.getElem?_eq_some_iff.1 hu).1; rw [HIB.out.llen] at this; exact this
          obtain ⟨g', cap', h2, h3⟩ := HIB.out.each j hj
          rw [h2] at hu
          simp only [Option.some.injEq] at hu
          subst hu
          have h4 := (q3 _ _ h3).cutD (m := (P.getD j []).length) (by rw [List.length_append]; omega)
          rw [List.take_left' rfl] at h4
          exact h4
        · obtain ⟨g', cap', h2, h3⟩ := HIB.out.each j hj
          exact ⟨g', cap', h2, (q3 _ _ h3).rg⟩
      have HB : Hid (Below w.heap.size w W3) := q4
      clear ho hg3 hng q3 q4 HIB HMB HCB HWA HGM HWB HGB
      go_wp2
      go_ret
      exact ⟨ng, ncap, rfl, ⟨lvs, _, HE.out⟩, HB.out⟩
end Go.Proofs.YthdpomgpcblpeaaGreat
