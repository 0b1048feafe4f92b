/-
  Proved here: what Clone answers; token and taken of package lex.
-/
import Derived.Test.YtlemnbegblpllaaDoorLexE
import Derived.Test.YtlemnbegblpllaaDoorLexShelf
import Derived.Test.YtlemnbegblpllaaDoorLexK
namespace Go.Proofs.YtlemnbegblpllaaDoor
open Go.RowKit

set_option maxRecDepth 100000 in
set_option maxHeartbeats 1600000 in
theorem clone_any (s : ByteArray) (w : World) (hs : s.size ≤ 281474976710656) :
    Calls Tryd.prog 58 #[.string s] w fun e w' => e = .returned (.string s) ∧ Below w.heap.size w w' := by
  go_enter Tryd.func58, Tryd.ntmps58
  go_wp2_with fail
  refine (Tryd.stringslite_Clone s _ hs).mono ?_
  rintro e w1 ⟨rfl, hb⟩
  have HB : Hid (Below w.heap.size w w1) := hb
  clear hb
  go_wp2
  go_ret
  exact ⟨rfl, HB.out⟩

theorem col_below (g : Nat) (s : ByteArray) (i : Nat) (w : World) (h : RdC w g s i) (hi : i < 4611686018427387904) :
    Calls Tryd.prog 59 #[.pointer (some ⟨g, 0, none⟩)] w fun e w' => e = .returned (.int .i64 (i - startOf s i + 1 : Nat)) ∧ Below w.heap.size w w' :=
  (col_any g s i w h hi).mono fun _ _ ⟨he, m, hm⟩ => ⟨he, by rw [hm]; exact below_drewN (Below.refl _ _) m⟩
/-- What a call that takes a word leaves. -/
def TokEnd (w : World) (g : Nat) (s : ByteArray) (j : Nat) (k : Int) (ms : ByteArray) (li co : Nat) (e : Ending) (w' : World) : Prop :=
  e = .returned (.tuple #[.agg #[.int .i8 k, .string ms, .int .i64 (li : Int), .int .i64 (co : Int)], .nilIface]) ∧ RdC w' g s j ∧ Off g w w'

set_option maxRecDepth 100000 in
set_option maxHeartbeats 3200000 in
theorem token_any (g : Nat) (s : ByteArray) (i j : Nat) (k : Int) (ms : ByteArray) (li co : Nat) (w : World) (h : RdC w g s i) (hi : i < 4611686018427387904) (hl : lineOf s j = lineOf s i) (hst : startOf s j = startOf s i) (eli : lineOf s i = li) (eco : i - startOf s i + 1 = co) :
    Calls Tryd.prog 39 #[.pointer (some ⟨g, 0, none⟩), .int .i8 k, .int .i64 (j : Int), .string ms] w (TokEnd w g s j k ms li co) := by
  obtain ⟨W1, hW1⟩ : ∃ W1, W1 = w.alloc (.cells #[.int .i8 0, .string ⟨#[]⟩, .int .i64 0, .int .i64 0] 38) := ⟨_, rfl⟩
  have hk : RdC W1 g s i := by rw [hW1]; exact h.below (belowA1 w _)
  have hr : TkC W1 w.heap.size (.int .i8 0) (.string ⟨#[]⟩) (.int .i64 0) (.int .i64 0) := by rw [hW1]; exact tkc_new _ rfl
  have hb1 : Off g w W1 := by rw [hW1]; exact Off.of (belowA1 w _)
  have hgr : g < w.heap.size := h.lt
  have hr0lt : w.heap.size < W1.heap.size := hr.lt
  have HW1 : Hid (W1 = w.alloc (.cells #[.int .i8 0, .string ⟨#[]⟩, .int .i64 0, .int .i64 0] 38)) := hW1
  clear hW1 h
  go_enter Tryd.func39, Tryd.ntmps39
  go_wp2_with fail
  rw [← HW1.out]
  obtain ⟨r, hr0⟩ : ∃ r, r = w.heap.size := ⟨_, rfl⟩
  rw [← hr0] at hr hgr hr0lt ⊢
  have HR : Hid (w.heap.size ≤ r) := Nat.le_of_eq hr0.symm
  clear HW1 hr0
  have hcol := fun w h => col_below g s i w h hi
  rw [eco] at hcol
  refine region_late [(5, fun w' => w'.cell? ⟨g, 2, none⟩ = some (.int .i64 (li : Int)))] (by kernel_rfl) ?_
  have D0 : Below W1.heap.size W1 W1.drew := (Below.refl _ _).drew
  have hHeld : AllL W1.drew [(5, fun w' => w'.cell? ⟨g, 2, none⟩ = some (.int .i64 (li : Int)))] := ⟨by rw [← eli]; exact (hk.below D0).cells.2.2.1, trivial⟩
  refine late_free 0 (v := .int .i8 k) rfl (by kernel_rfl) (by kernel_rfl) (by kernel_rfl) (by kernel_rfl) (by kernel_rfl) (by kernel_rfl) (fun _ _ _ h => h) (Or.inl ⟨by rfl, ?_⟩) hHeld ?_
  · (intro u _; go_simp)
  (try simp only [Act.put, List.setIfInBounds_toArray, List.set_cons_zero, List.set_cons_succ])
  refine late_free 1 (v := .string ms) rfl (by kernel_rfl) (by kernel_rfl) (by kernel_rfl) (by kernel_rfl) (by kernel_rfl) (by kernel_rfl) (fun _ _ _ h => h) (Or.inl ⟨by rfl, ?_⟩) hHeld ?_
  · (intro u _; go_simp)
  (try simp only [Act.put, List.setIfInBounds_toArray, List.set_cons_zero, List.set_cons_succ])
  refine late_free 2 (v := .pointer (some ⟨g, 0, none⟩)) rfl (by kernel_rfl) (by kernel_rfl) (by kernel_rfl) (by kernel_rfl) (by kernel_rfl) (by kernel_rfl) (fun _ _ _ h => h) (Or.inl ⟨by rfl, ?_⟩) hHeld ?_
  · (intro u _; go_simp)
  (try simp only [Act.put, List.setIfInBounds_toArray, List.set_cons_zero, List.set_cons_succ])
  refine late_free 3 (v := .pointer (some ⟨g, 0, none⟩)) rfl (by kernel_rfl) (by kernel_rfl) (by kernel_rfl) (by kernel_rfl) (by kernel_rfl) (by kernel_rfl) (fun _ _ _ h => h) (Or.inl ⟨by rfl, ?_⟩) hHeld ?_
  · (intro u _; go_simp)
  (try simp only [Act.put, List.setIfInBounds_toArray, List.set_cons_zero, List.set_cons_succ])
  refine late_free 4 (v := .pointer (some ⟨g, 2, none⟩)) rfl (by kernel_rfl) (by kernel_rfl) (by kernel_rfl) (by kernel_rfl) (by kernel_rfl) (by kernel_rfl) (fun _ _ _ h => h) (Or.inl ⟨by rfl, ?_⟩) hHeld ?_
  · (intro u _; go_simp)
  (try simp only [Act.put, List.setIfInBounds_toArray, List.set_cons_zero, List.set_cons_succ])
  refine late_take 5 (v := .int .i64 (li : Int)) rfl (by kernel_rfl) (List.Mem.head _) (by kernel_rfl) (by kernel_rfl) (by kernel_rfl) (by kernel_rfl) (fun _ _ _ h => h) (Or.inl ⟨by rfl, ?_⟩) hHeld ?_
  · (intro u hu; (try dsimp only at hu); go_simp)
  (try simp only [Act.put, List.setIfInBounds_toArray, List.set_cons_zero, List.set_cons_succ])
  refine late_free 6 (v := .pointer (some ⟨g, 0, none⟩)) rfl (by kernel_rfl) (by kernel_rfl) (by kernel_rfl) (by kernel_rfl) (by kernel_rfl) (by kernel_rfl) (fun _ _ _ h => h) (Or.inl ⟨by rfl, ?_⟩) hHeld ?_
  · (intro u _; go_simp)
  (try simp only [Act.put, List.setIfInBounds_toArray, List.set_cons_zero, List.set_cons_succ])
  refine late_2 7 9 (by kernel_rfl) rfl rfl (fun K hK => ?_) (fun K hK => ?_)
  · go_simp
    refine (hcol _ (hk.below D0)).mono ?_
    rintro e w3 ⟨rfl, b3⟩
    have B3 : Below W1.heap.size W1 w3 := bstep1 D0 b3
    clear hHeld
    have hHeld : AllL w3 [(5, fun w' => w'.cell? ⟨g, 2, none⟩ = some (.int .i64 (li : Int)))] := ⟨by rw [← eli]; exact (hk.below B3).cells.2.2.1, trivial⟩
    go_wp2_with fail
    refine hK.out _ _ (AllL.kept hHeld) ?_
    clear hK K
    (try simp only [Act.put, List.setIfInBounds_toArray, List.set_cons_zero, List.set_cons_succ])
    refine late_2 8 9 (by kernel_rfl) rfl rfl (fun K hK => ?_) (fun K hK => ?_)
    · go_simp
      refine hK.out _ _ (AllL.kept hHeld) ?_
      clear hK K
      (try simp only [Act.put, List.setIfInBounds_toArray, List.set_cons_zero, List.set_cons_succ])
      refine late_step 9 (by kernel_rfl) rfl (fun K hK => ?_)
      go_simp
      obtain ⟨w5, hw5⟩ : ∃ u, u = w3.alloc (.cells #[.int .i8 0, .string ⟨#[]⟩, .int .i64 0, .int .i64 0] 38) := ⟨_, rfl⟩
      have hp : TkC w5 w3.heap.size (.int .i8 0) (.string ⟨#[]⟩) (.int .i64 0) (.int .i64 0) := by rw [hw5]; exact tkc_new _ rfl
      have B5 : Below W1.heap.size W1 w5 := by rw [hw5]; exact bstep1 B3 (belowA1 _ _)
      rw [← hw5]
      obtain ⟨pv, hpv⟩ : ∃ v, v = w3.heap.size := ⟨_, rfl⟩
      have HPV : Hid (W1.heap.size ≤ pv) := by show _ ≤ _; rw [hpv]; exact B3.size
      rw [← hpv] at hp ⊢
      clear hpv hw5 hHeld
      have hHeld : AllL w5 [(5, fun w' => w'.cell? ⟨g, 2, none⟩ = some (.int .i64 (li : Int)))] := ⟨by rw [← eli]; exact (hk.below B5).cells.2.2.1, trivial⟩
      refine hK.out _ _ (AllL.kept hHeld) ?_
      clear hK K
      (try simp only [Act.put, List.setIfInBounds_toArray, List.set_cons_zero, List.set_cons_succ])
      clear hcol
      obtain ⟨y0, y1, y2, y3⟩ := hp.cells
      have f0 := hp.thaw 0
      have f1 := hp.thaw 1
      have f2 := hp.thaw 2
      have f3 := hp.thaw 3
      refine late_step 10 (by kernel_rfl) rfl (fun K hK => ?_)
      go_simp
      obtain ⟨w6, hw6⟩ : ∃ u, u = ((((w5.setCell ⟨pv, 0, none⟩ (.int .i8 k)).setCell ⟨pv, 1, none⟩ (.string ms)).setCell ⟨pv, 2, none⟩ (.int .i64 (li : Int))).setCell ⟨pv, 3, none⟩ (.int .i64 (co : Int))) := ⟨_, rfl⟩
      have hp6 : TkC w6 pv (.int .i8 k) (.string ms) (.int .i64 (li : Int)) (.int .i64 (co : Int)) := by rw [hw6]; exact hp.write _ _ _ _
      have B6 : Below W1.heap.size W1 w6 := by rw [hw6]; exact (((B5.setCell (p := ⟨pv, 0, none⟩) HPV.out _).setCell (p := ⟨pv, 1, none⟩) HPV.out _).setCell (p := ⟨pv, 2, none⟩) HPV.out _).setCell (p := ⟨pv, 3, none⟩) HPV.out _
      rw [← hw6]
      clear hHeld hw6
      have hHeld : AllL w6 [(5, fun w' => w'.cell? ⟨g, 2, none⟩ = some (.int .i64 (li : Int)))] := ⟨by rw [← eli]; exact (hk.below B6).cells.2.2.1, trivial⟩
      refine hK.out _ _ (AllL.kept hHeld) ?_
      clear hK K
      (try simp only [Act.put, List.setIfInBounds_toArray, List.set_cons_zero, List.set_cons_succ])
      refine late_done (by kernel_rfl) ?_ _
      clear hHeld
      replace hk := hk.below B6
      replace hr := hr.below B6
      replace hb1 := hb1.trans (Off.of B6)
      have HNE : Hid (pv ≠ g ∧ r ≠ g ∧ r ≠ pv) := by have := HPV.out; have := hr0lt; exact ⟨by omega, by omega, by omega⟩
      clear y0 y1 y2 y3 f0 f1 f2 f3 hp HPV
      obtain ⟨w7, hw7⟩ : ∃ u, w6.setCell ⟨g, 1, none⟩ (.int .i64 (j : Int)) = u := ⟨_, rfl⟩
      have c1 := hk.cells.2.1
      have fc := hk.thaw 1
      have hk7 : RdC w7 g s j := by rw [← hw7]; exact hk.moved hl hst
      have hp7 : TkC w7 pv (.int .i8 k) (.string ms) (.int .i64 (li : Int)) (.int .i64 (co : Int)) := by rw [← hw7]; exact hp6.set (p := ⟨g, 1, none⟩) HNE.out.1 _
      have hr7 : TkC w7 r (.int .i8 0) (.string ⟨#[]⟩) (.int .i64 0) (.int .i64 0) := by rw [← hw7]; exact hr.set (p := ⟨g, 1, none⟩) HNE.out.2.1 _
      have b7 : Off g w w7 := by rw [← hw7]; exact hb1.set _
      have HW : Hid (TkC ((((w7.setCell ⟨r, 0, none⟩ (.int .i8 k)).setCell ⟨r, 1, none⟩ (.string ms)).setCell ⟨r, 2, none⟩ (.int .i64 (li : Int))).setCell ⟨r, 3, none⟩ (.int .i64 (co : Int))) r (.int .i8 k) (.string ms) (.int .i64 (li : Int)) (.int .i64 (co : Int))) := hr7.write _ _ _ _
      have HE : Hid (TokEnd w g s j k ms li co (.returned (.tuple #[.agg #[.int .i8 k, .string ms, .int .i64 (li : Int), .int .i64 (co : Int)], .nilIface])) ((((w7.setCell ⟨r, 0, none⟩ (.int .i8 k)).setCell ⟨r, 1, none⟩ (.string ms)).setCell ⟨r, 2, none⟩ (.int .i64 (li : Int))).setCell ⟨r, 3, none⟩ (.int .i64 (co : Int)))) := ⟨rfl, (((hk7.set (p := ⟨r, 0, none⟩) HNE.out.2.1.symm _).set (p := ⟨r, 1, none⟩) HNE.out.2.1.symm _).set (p := ⟨r, 2, none⟩) HNE.out.2.1.symm _).set (p := ⟨r, 3, none⟩) HNE.out.2.1.symm _, (((b7.own (p := ⟨r, 0, none⟩) HR.out _).own (p := ⟨r, 1, none⟩) HR.out _).own (p := ⟨r, 2, none⟩) HR.out _).own (p := ⟨r, 3, none⟩) HR.out _⟩
      obtain ⟨y0, y1, y2, y3⟩ := hp7.cells
      obtain ⟨z0, z1, z2, z3⟩ := hr7.cells
      have f0 := hr7.thaw 0
      have f1 := hr7.thaw 1
      have f2 := hr7.thaw 2
      have f3 := hr7.thaw 3
      clear hk hp6 hr hb1 hk7 hp7 hr7 b7 hl hst eli eco hgr hr0lt
      go_wp2_with fail
      (try simp only [Exit.inBlock, Exit.then])
      exact bodyPost_ret (results_ctx (p := 8) (u := 9) rfl _ _ r 38 _ (0, 0) _ rfl HW.out Tryd.underlying38 rfl (by kernel_rfl)) rfl HE.out
    · go_simp
      obtain ⟨w5, hw5⟩ : ∃ u, u = w3.alloc (.cells #[.int .i8 0, .string ⟨#[]⟩, .int .i64 0, .int .i64 0] 38) := ⟨_, rfl⟩
      have hp : TkC w5 w3.heap.size (.int .i8 0) (.string ⟨#[]⟩) (.int .i64 0) (.int .i64 0) := by rw [hw5]; exact tkc_new _ rfl
      have B5 : Below W1.heap.size W1 w5 := by rw [hw5]; exact bstep1 B3 (belowA1 _ _)
      rw [← hw5]
      obtain ⟨pv, hpv⟩ : ∃ v, v = w3.heap.size := ⟨_, rfl⟩
      have HPV : Hid (W1.heap.size ≤ pv) := by show _ ≤ _; rw [hpv]; exact B3.size
      rw [← hpv] at hp ⊢
      clear hpv hw5 hHeld
      have hHeld : AllL w5 [(5, fun w' => w'.cell? ⟨g, 2, none⟩ = some (.int .i64 (li : Int)))] := ⟨by rw [← eli]; exact (hk.below B5).cells.2.2.1, trivial⟩
      refine hK.out _ _ (AllL.kept hHeld) ?_
      clear hK K
      (try simp only [Act.put, List.setIfInBounds_toArray, List.set_cons_zero, List.set_cons_succ])
      refine late_step 8 (by kernel_rfl) rfl (fun K hK => ?_)
      go_simp
      refine hK.out _ _ (AllL.kept hHeld) ?_
      clear hK K
      (try simp only [Act.put, List.setIfInBounds_toArray, List.set_cons_zero, List.set_cons_succ])
      clear hcol
      obtain ⟨y0, y1, y2, y3⟩ := hp.cells
      have f0 := hp.thaw 0
      have f1 := hp.thaw 1
      have f2 := hp.thaw 2
      have f3 := hp.thaw 3
      refine late_step 10 (by kernel_rfl) rfl (fun K hK => ?_)
      go_simp
      obtain ⟨w6, hw6⟩ : ∃ u, u = ((((w5.setCell ⟨pv, 0, none⟩ (.int .i8 k)).setCell ⟨pv, 1, none⟩ (.string ms)).setCell ⟨pv, 2, none⟩ (.int .i64 (li : Int))).setCell ⟨pv, 3, none⟩ (.int .i64 (co : Int))) := ⟨_, rfl⟩
      have hp6 : TkC w6 pv (.int .i8 k) (.string ms) (.int .i64 (li : Int)) (.int .i64 (co : Int)) := by rw [hw6]; exact hp.write _ _ _ _
      have B6 : Below W1.heap.size W1 w6 := by rw [hw6]; exact (((B5.setCell (p := ⟨pv, 0, none⟩) HPV.out _).setCell (p := ⟨pv, 1, none⟩) HPV.out _).setCell (p := ⟨pv, 2, none⟩) HPV.out _).setCell (p := ⟨pv, 3, none⟩) HPV.out _
      rw [← hw6]
      clear hHeld hw6
      have hHeld : AllL w6 [(5, fun w' => w'.cell? ⟨g, 2, none⟩ = some (.int .i64 (li : Int)))] := ⟨by rw [← eli]; exact (hk.below B6).cells.2.2.1, trivial⟩
      refine hK.out _ _ (AllL.kept hHeld) ?_
      clear hK K
      (try simp only [Act.put, List.setIfInBounds_toArray, List.set_cons_zero, List.set_cons_succ])
      refine late_done (by kernel_rfl) ?_ _
      clear hHeld
      replace hk := hk.below B6
      replace hr := hr.below B6
      replace hb1 := hb1.trans (Off.of B6)
      have HNE : Hid (pv ≠ g ∧ r ≠ g ∧ r ≠ pv) := by have := HPV.out; have := hr0lt; exact ⟨by omega, by omega, by omega⟩
      clear y0 y1 y2 y3 f0 f1 f2 f3 hp HPV
      obtain ⟨w7, hw7⟩ : ∃ u, w6.setCell ⟨g, 1, none⟩ (.int .i64 (j : Int)) = u := ⟨_, rfl⟩
      have c1 := hk.cells.2.1
      have fc := hk.thaw 1
      have hk7 : RdC w7 g s j := by rw [← hw7]; exact hk.moved hl hst
      have hp7 : TkC w7 pv (.int .i8 k) (.string ms) (.int .i64 (li : Int)) (.int .i64 (co : Int)) := by rw [← hw7]; exact hp6.set (p := ⟨g, 1, none⟩) HNE.out.1 _
      have hr7 : TkC w7 r (.int .i8 0) (.string ⟨#[]⟩) (.int .i64 0) (.int .i64 0) := by rw [← hw7]; exact hr.set (p := ⟨g, 1, none⟩) HNE.out.2.1 _
      have b7 : Off g w w7 := by rw [← hw7]; exact hb1.set _
      have HW : Hid (TkC ((((w7.setCell ⟨r, 0, none⟩ (.int .i8 k)).setCell ⟨r, 1, none⟩ (.string ms)).setCell ⟨r, 2, none⟩ (.int .i64 (li : Int))).setCell ⟨r, 3, none⟩ (.int .i64 (co : Int))) r (.int .i8 k) (.string ms) (.int .i64 (li : Int)) (.int .i64 (co : Int))) := hr7.write _ _ _ _
      have HE : Hid (TokEnd w g s j k ms li co (.returned (.tuple #[.agg #[.int .i8 k, .string ms, .int .i64 (li : Int), .int .i64 (co : Int)], .nilIface])) ((((w7.setCell ⟨r, 0, none⟩ (.int .i8 k)).setCell ⟨r, 1, none⟩ (.string ms)).setCell ⟨r, 2, none⟩ (.int .i64 (li : Int))).setCell ⟨r, 3, none⟩ (.int .i64 (co : Int)))) := ⟨rfl, (((hk7.set (p := ⟨r, 0, none⟩) HNE.out.2.1.symm _).set (p := ⟨r, 1, none⟩) HNE.out.2.1.symm _).set (p := ⟨r, 2, none⟩) HNE.out.2.1.symm _).set (p := ⟨r, 3, none⟩) HNE.out.2.1.symm _, (((b7.own (p := ⟨r, 0, none⟩) HR.out _).own (p := ⟨r, 1, none⟩) HR.out _).own (p := ⟨r, 2, none⟩) HR.out _).own (p := ⟨r, 3, none⟩) HR.out _⟩
      obtain ⟨y0, y1, y2, y3⟩ := hp7.cells
      obtain ⟨z0, z1, z2, z3⟩ := hr7.cells
      have f0 := hr7.thaw 0
      have f1 := hr7.thaw 1
      have f2 := hr7.thaw 2
      have f3 := hr7.thaw 3
      clear hk hp6 hr hb1 hk7 hp7 hr7 b7 hl hst eli eco hgr hr0lt
      go_wp2_with fail
      (try simp only [Exit.inBlock, Exit.then])
      exact bodyPost_ret (results_ctx (p := 8) (u := 9) rfl _ _ r 38 _ (0, 0) _ rfl HW.out Tryd.underlying38 rfl (by kernel_rfl)) rfl HE.out
  · go_simp
    obtain ⟨w5, hw5⟩ : ∃ u, u = (W1.alloc (.cells #[.int .i8 0, .string ⟨#[]⟩, .int .i64 0, .int .i64 0] 38)).drew := ⟨_, rfl⟩
    have hp : TkC w5 W1.heap.size (.int .i8 0) (.string ⟨#[]⟩) (.int .i64 0) (.int .i64 0) := by rw [hw5]; exact (tkc_new W1 rfl).below (Below.refl _ _).drew
    have B5 : Below W1.heap.size W1 w5 := by rw [hw5]; exact bstep1 (belowA1 _ _) (Below.refl _ _).drew
    rw [← hw5]
    obtain ⟨pv, hpv⟩ : ∃ v, v = W1.heap.size := ⟨_, rfl⟩
    have HPV : Hid (W1.heap.size ≤ pv) := by show _ ≤ _; rw [hpv]; exact Nat.le_refl _
    rw [← hpv] at hp ⊢
    clear hpv hw5 hHeld
    have hHeld : AllL w5 [(5, fun w' => w'.cell? ⟨g, 2, none⟩ = some (.int .i64 (li : Int)))] := ⟨by rw [← eli]; exact (hk.below B5).cells.2.2.1, trivial⟩
    refine hK.out _ _ (AllL.kept hHeld) ?_
    clear hK K
    (try simp only [Act.put, List.setIfInBounds_toArray, List.set_cons_zero, List.set_cons_succ])
    refine late_step 7 (by kernel_rfl) rfl (fun K hK => ?_)
    go_simp
    refine (hcol _ (hk.below B5)).mono ?_
    rintro e w3 ⟨rfl, b3⟩
    have B3 : Below W1.heap.size W1 w3 := bstep1 B5 b3
    replace hp := hp.below b3
    clear hHeld
    have hHeld : AllL w3 [(5, fun w' => w'.cell? ⟨g, 2, none⟩ = some (.int .i64 (li : Int)))] := ⟨by rw [← eli]; exact (hk.below B3).cells.2.2.1, trivial⟩
    go_wp2_with fail
    refine hK.out _ _ (AllL.kept hHeld) ?_
    clear hK K
    (try simp only [Act.put, List.setIfInBounds_toArray, List.set_cons_zero, List.set_cons_succ])
    refine late_step 8 (by kernel_rfl) rfl (fun K hK => ?_)
    go_simp
    refine hK.out _ _ (AllL.kept hHeld) ?_
    clear hK K
    (try simp only [Act.put, List.setIfInBounds_toArray, List.set_cons_zero, List.set_cons_succ])
    clear hcol
    obtain ⟨y0, y1, y2, y3⟩ := hp.cells
    have f0 := hp.thaw 0
    have f1 := hp.thaw 1
    have f2 := hp.thaw 2
    have f3 := hp.thaw 3
    refine late_step 10 (by kernel_rfl) rfl (fun K hK => ?_)
    go_simp
    obtain ⟨w6, hw6⟩ : ∃ u, u = ((((w3.setCell ⟨pv, 0, none⟩ (.int .i8 k)).setCell ⟨pv, 1, none⟩ (.string ms)).setCell ⟨pv, 2, none⟩ (.int .i64 (li : Int))).setCell ⟨pv, 3, none⟩ (.int .i64 (co : Int))) := ⟨_, rfl⟩
    have hp6 : TkC w6 pv (.int .i8 k) (.string ms) (.int .i64 (li : Int)) (.int .i64 (co : Int)) := by rw [hw6]; exact hp.write _ _ _ _
    have B6 : Below W1.heap.size W1 w6 := by rw [hw6]; exact (((B3.setCell (p := ⟨pv, 0, none⟩) HPV.out _).setCell (p := ⟨pv, 1, none⟩) HPV.out _).setCell (p := ⟨pv, 2, none⟩) HPV.out _).setCell (p := ⟨pv, 3, none⟩) HPV.out _
    rw [← hw6]
    clear hHeld hw6
    have hHeld : AllL w6 [(5, fun w' => w'.cell? ⟨g, 2, none⟩ = some (.int .i64 (li : Int)))] := ⟨by rw [← eli]; exact (hk.below B6).cells.2.2.1, trivial⟩
    refine hK.out _ _ (AllL.kept hHeld) ?_
    clear hK K
    (try simp only [Act.put, List.setIfInBounds_toArray, List.set_cons_zero, List.set_cons_succ])
    refine late_done (by kernel_rfl) ?_ _
    clear hHeld
    replace hk := hk.below B6
    replace hr := hr.below B6
    replace hb1 := hb1.trans (Off.of B6)
    have HNE : Hid (pv ≠ g ∧ r ≠ g ∧ r ≠ pv) := by have := HPV.out; have := hr0lt; exact ⟨by omega, by omega, by omega⟩
    clear y0 y1 y2 y3 f0 f1 f2 f3 hp HPV
    obtain ⟨w7, hw7⟩ : ∃ u, w6.setCell ⟨g, 1, none⟩ (.int .i64 (j : Int)) = u := ⟨_, rfl⟩
    have c1 := hk.cells.2.1
    have fc := hk.thaw 1
    have hk7 : RdC w7 g s j := by rw [← hw7]; exact hk.moved hl hst
    have hp7 : TkC w7 pv (.int .i8 k) (.string ms) (.int .i64 (li : Int)) (.int .i64 (co : Int)) := by rw [← hw7]; exact hp6.set (p := ⟨g, 1, none⟩) HNE.out.1 _
    have hr7 : TkC w7 r (.int .i8 0) (.string ⟨#[]⟩) (.int .i64 0) (.int .i64 0) := by rw [← hw7]; exact hr.set (p := ⟨g, 1, none⟩) HNE.out.2.1 _
    have b7 : Off g w w7 := by rw [← hw7]; exact hb1.set _
    have HW : Hid (TkC ((((w7.setCell ⟨r, 0, none⟩ (.int .i8 k)).setCell ⟨r, 1, none⟩ (.string ms)).setCell ⟨r, 2, none⟩ (.int .i64 (li : Int))).setCell ⟨r, 3, none⟩ (.int .i64 (co : Int))) r (.int .i8 k) (.string ms) (.int .i64 (li : Int)) (.int .i64 (co : Int))) := hr7.write _ _ _ _
    have HE : Hid (TokEnd w g s j k ms li co (.returned (.tuple #[.agg #[.int .i8 k, .string ms, .int .i64 (li : Int), .int .i64 (co : Int)], .nilIface])) ((((w7.setCell ⟨r, 0, none⟩ (.int .i8 k)).setCell ⟨r, 1, none⟩ (.string ms)).setCell ⟨r, 2, none⟩ (.int .i64 (li : Int))).setCell ⟨r, 3, none⟩ (.int .i64 (co : Int)))) := ⟨rfl, (((hk7.set (p := ⟨r, 0, none⟩) HNE.out.2.1.symm _).set (p := ⟨r, 1, none⟩) HNE.out.2.1.symm _).set (p := ⟨r, 2, none⟩) HNE.out.2.1.symm _).set (p := ⟨r, 3, none⟩) HNE.out.2.1.symm _, (((b7.own (p := ⟨r, 0, none⟩) HR.out _).own (p := ⟨r, 1, none⟩) HR.out _).own (p := ⟨r, 2, none⟩) HR.out _).own (p := ⟨r, 3, none⟩) HR.out _⟩
    obtain ⟨y0, y1, y2, y3⟩ := hp7.cells
    obtain ⟨z0, z1, z2, z3⟩ := hr7.cells
    have f0 := hr7.thaw 0
    have f1 := hr7.thaw 1
    have f2 := hr7.thaw 2
    have f3 := hr7.thaw 3
    clear hk hp6 hr hb1 hk7 hp7 hr7 b7 hl hst eli eco hgr hr0lt
    go_wp2_with fail
    (try simp only [Exit.inBlock, Exit.then])
    exact bodyPost_ret (results_ctx (p := 8) (u := 9) rfl _ _ r 38 _ (0, 0) _ rfl HW.out Tryd.underlying38 rfl (by kernel_rfl)) rfl HE.out
end Go.Proofs.YtlemnbegblpllaaDoor
