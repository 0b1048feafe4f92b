/-
  Proved here: what next of package lex answers.
-/
import Derived.Test.YtlemnbegblpllaaDoorLexM
namespace Go.Proofs.YtlemnbegblpllaaDoor
open Go.RowKit

/-- What is told of a place at which neither a blank nor a comment stands. -/
def wordOut (s : ByteArray) (j : Nat) : Out :=
  if j = s.size then .tok 0 ⟨#[]⟩ (lineOf s j) (colOf s j) j
  else if kd (atB s j) = 2 then nameOut s j
  else if kd (atB s j) = 3 then numOut s j
  else if kd (atB s j) = 4 then quoteOut s j
  else if kd (atB s j) = 5 then .tok 4 (s.extract j (j + 1)) (lineOf s j) (colOf s j) (j + 1)
  else .flt 20 (lineOf s j) (colOf s j) (s.extract j (j + 1))
def nextTold (s : ByteArray) (r : Bool × Nat) : Out := if r.1 = true then wordOut s r.2 else .flt 21 (lineOf s r.2) (colOf s r.2) (s.extract r.2 (r.2 + 2))
def nextOut (s : ByteArray) (i : Nat) : Out := nextTold s (skF s (s.size + 1) i)
theorem sk_false (s : ByteArray) : ∀ n i, (skF s n i).1 = false → atB s ((skF s n i).2 + 1) = 42
  | 0, i, h => by cases h
  | n + 1, i, h => by
    unfold skF at h ⊢
    split at h
    · rename_i h1; rw [if_pos h1]; exact sk_false s n _ h
    · rename_i h1
      rw [if_neg h1]
      split at h
      · rename_i h2; rw [if_pos h2]; exact sk_false s n _ h
      · rename_i h2
        rw [if_neg h2]
        split at h
        · rename_i h3
          rw [if_pos h3]
          split at h
          · rename_i h4; rw [if_pos h4]; exact h3.2
          · rename_i h4; rw [if_neg h4]; exact sk_false s n _ h
        · cases h
theorem kd_quote {b : Nat} (h : kd b = 4) : b = 34 := by
  unfold kd at h
  split at h
  · cases h
  · split at h
    · assumption
    · split at h
      · cases h
      · split at h
        · cases h
        · split at h
          · cases h
          · split at h <;> cases h

set_option maxRecDepth 100000 in
set_option maxHeartbeats 6400000 in
theorem next_any (g : Nat) (s : ByteArray) (i : Nat) (m : Int) (w : World) (h : RdC w g s i) (hi : i ≤ s.size) (hz : s.size < 4294967281) (hm : w.cell? ⟨1, 0, none⟩ = some (.int .i64 m)) (hg : g ≠ 1) :
    Calls Tryd.prog 25 #[.pointer (some ⟨g, 0, none⟩)] w fun e w' => ∃ v, e = .returned v ∧ NxEnd w g s (nextOut s i) v w' := by
  unfold nextOut
  have hsk := fun w h hm => skip_any g s i m w h hi hz hm hg
  have hle := sk_le s (s.size + 1) i hi
  have hfa := sk_false s (s.size + 1) i
  generalize skF s (s.size + 1) i = rj at *
  obtain ⟨ok, j⟩ := rj
  dsimp only at hle hfa
  clear hi
  obtain ⟨oo, ho⟩ : ∃ oo, oo = nextTold s (ok, j) := ⟨_, rfl⟩
  rw [← ho]
  unfold nextTold at ho
  dsimp only at ho
  obtain ⟨W1, hW1⟩ : ∃ W1, W1 = w.alloc (.cells #[.int .i8 0, .string ⟨#[]⟩, .int .i64 0, .int .i64 0] 38) := ⟨_, rfl⟩
  have hk : RdC W1 g s i := by rw [hW1]; exact h.below (belowA1 w _)
  have hr : TkC W1 w.heap.size (.int .i8 0) (.string ⟨#[]⟩) (.int .i64 0) (.int .i64 0) := by rw [hW1]; exact tkc_new _ rfl
  have hb1 : Off g w W1 := by rw [hW1]; exact Off.of (belowA1 w _)
  have hgr : g < w.heap.size := h.lt
  have HW1 : Hid (W1 = w.alloc (.cells #[.int .i8 0, .string ⟨#[]⟩, .int .i64 0, .int .i64 0] 38)) := hW1
  clear hW1 h
  go_enter Tryd.func25, Tryd.ntmps25
  go_wp2_with fail
  rw [← HW1.out]
  obtain ⟨r, hr0⟩ : ∃ r, r = w.heap.size := ⟨_, rfl⟩
  rw [← hr0] at hr hgr ⊢
  have HR : Hid (w.heap.size ≤ r) := Nat.le_of_eq hr0.symm
  have hrg : r ≠ g := by omega
  clear HW1 hr0 hgr
  have hm1 := hb1.cell1 hg hm
  refine (hsk _ hk hm1).mono ?_
  rintro e w3 ⟨rfl, hk3, o3⟩
  replace hr := hr.off o3 hrg
  replace hb1 := hb1.trans o3
  replace hk := hk3
  clear hk3 o3 hsk hm hm1
  dsimp only at hk ⊢
  obtain ⟨c0, c1, c2, c3⟩ := hk.cells
  clear c2 c3
  cases ok with
  | false =>
    have h42 : j + 1 < s.size := atB_in (by rw [hfa rfl]; decide)
    rw [if_neg (by decide)] at ho
    have hfl := fault_any g s j (j + 2) 21 (lineOf s j) (colOf s j) w3 hk (by omega) (by omega) (by omega) rfl rfl
    rw [← ho, show ((j + 2 : Nat) : Int) = (j : Int) + 2 by omega] at hfl
    clear hfa ho
    go_wp2_with fail
    refine hfl.mono ?_
    rintro e w4 ⟨v, rfl, hN⟩
    clear hfl
    obtain ⟨o4, va, vb, vc, vd, ve, rfl⟩ := hN.see
    have hr4 := hr.off o4 hrg
    have HE : Hid (NxEnd w g s oo _ ((((w4.setCell ⟨r, 0, none⟩ (.int .i8 va)).setCell ⟨r, 1, none⟩ (.string vb)).setCell ⟨r, 2, none⟩ (.int .i64 vc)).setCell ⟨r, 3, none⟩ (.int .i64 vd))) := hN.wrap hb1 HR.out hr.lt hrg.symm _ _ _ _
    have HW : Hid (TkC ((((w4.setCell ⟨r, 0, none⟩ (.int .i8 va)).setCell ⟨r, 1, none⟩ (.string vb)).setCell ⟨r, 2, none⟩ (.int .i64 vc)).setCell ⟨r, 3, none⟩ (.int .i64 vd)) r (.int .i8 va) (.string vb) (.int .i64 vc) (.int .i64 vd)) := hr4.write _ _ _ _
    obtain ⟨z0, z1, z2, z3⟩ := hr4.cells
    have f0 := hr4.thaw 0
    have f1 := hr4.thaw 1
    have f2 := hr4.thaw 2
    have f3 := hr4.thaw 3
    clear hN o4 hr4 hr hb1 hk hrg c0 c1
    go_wp2_with fail
    (try simp only [Exit.inBlock, Exit.then])
    exact bodyPost_ret (results_ctx (p := 2) (u := 3) rfl _ _ r 38 _ (0, 0) _ rfl HW.out Tryd.underlying38 rfl (by kernel_rfl)) rfl ⟨_, rfl, HE.out⟩
  | true =>
    rw [if_pos rfl] at ho
    have HOO : Hid (oo = wordOut s j) := ho
    clear hfa ho
    go_wp2_with fail
    go_quiet (fail)
    have D0 : Below w3.heap.size w3 (w3.drewN nq) := below_drewN (Below.refl _ _) nq
    replace hk := hk.below D0
    replace hr := hr.below D0
    replace hb1 := hb1.trans (Off.of D0)
    clear c0 c1 D0
    generalize w3.drewN nq = w5 at *
    have c0 := hk.cells.1
    have c1 := hk.cells.2.1
    by_cases hj : j = s.size
    · have ho := HOO.out
      unfold wordOut at ho
      rw [if_pos hj] at ho
      have hcal := (token_any g s j j 0 ⟨#[]⟩ (lineOf s j) (colOf s j) w5 hk (by omega) rfl rfl rfl rfl).mono (R' := fun e w' => ∃ v, e = .returned v ∧ NxEnd w5 g s (.tok 0 ⟨#[]⟩ (lineOf s j) (colOf s j) j) v w') fun _ _ ⟨h1, h2, h3⟩ => ⟨_, h1, rfl, h2, h3⟩
      rw [← ho] at hcal
      have hje : ((j : Int) == (s.size : Int)) = true := by rw [hj]; simp
      clear ho hj
      go_wp2_with fail
      refine hcal.mono ?_
      rintro e w4 ⟨v, rfl, hN⟩
      clear hcal
      obtain ⟨o4, va, vb, vc, vd, ve, rfl⟩ := hN.see
      have hr4 := hr.off o4 hrg
      have HE : Hid (NxEnd w g s oo _ ((((w4.setCell ⟨r, 0, none⟩ (.int .i8 va)).setCell ⟨r, 1, none⟩ (.string vb)).setCell ⟨r, 2, none⟩ (.int .i64 vc)).setCell ⟨r, 3, none⟩ (.int .i64 vd))) := hN.wrap hb1 HR.out hr.lt hrg.symm _ _ _ _
      have HW : Hid (TkC ((((w4.setCell ⟨r, 0, none⟩ (.int .i8 va)).setCell ⟨r, 1, none⟩ (.string vb)).setCell ⟨r, 2, none⟩ (.int .i64 vc)).setCell ⟨r, 3, none⟩ (.int .i64 vd)) r (.int .i8 va) (.string vb) (.int .i64 vc) (.int .i64 vd)) := hr4.write _ _ _ _
      obtain ⟨z0, z1, z2, z3⟩ := hr4.cells
      have f0 := hr4.thaw 0
      have f1 := hr4.thaw 1
      have f2 := hr4.thaw 2
      have f3 := hr4.thaw 3
      clear hN o4 hr4 hr hb1 hk hrg c0 c1
      go_wp2_with fail
      (try simp only [Exit.inBlock, Exit.then])
      exact bodyPost_ret (results_ctx (p := 2) (u := 3) rfl _ _ r 38 _ (0, 0) _ rfl HW.out Tryd.underlying38 rfl (by kernel_rfl)) rfl ⟨_, rfl, HE.out⟩
    · have hlt : j < s.size := by omega
      have hje : ((j : Int) == (s.size : Int)) = false := nat_beq hj
      have hli : (j : Int) < (s.size : Int) := by omega
      have HB : Hid (s[j].toNat = atB s j) := by show _ = _; unfold atB; rw [dif_pos hlt]; rfl
      have hkd := fun w => kindOf_any s[j].toNat w
      skip
      go_wp2_with fail
      go_quiet ((go_at_call 28; exact Calls.quiet_of_same (hkd _)))
      have D0 : Below w5.heap.size w5 (w5.drewN nq) := below_drewN (Below.refl _ _) nq
      replace hk := hk.below D0
      replace hr := hr.below D0
      replace hb1 := hb1.trans (Off.of D0)
      clear c0 c1 D0
      generalize w5.drewN nq = w6 at *
      have c0 := hk.cells.1
      have c1 := hk.cells.2.1
      have hb := HB.out
      rw [hb]
      clear HB
      have ho := HOO.out
      unfold wordOut at ho
      rw [if_neg hj] at ho
      clear hkd hj HOO
      obtain ⟨kk, hkk⟩ : ∃ kk, kk = kd (atB s j) := ⟨_, rfl⟩
      rw [← hkk] at ho ⊢
      by_cases h2 : kk = 2
      · rw [if_pos h2] at ho
        have hcal := name_any g s j w6 hk (by omega) (by omega)
        rw [← ho] at hcal
        have x2 : (kk == 2) = true := by rw [h2]; rfl
        clear ho hkk hb h2
        go_wp2_with fail
        refine hcal.mono ?_
        rintro e w4 ⟨v, rfl, hN⟩
        clear hcal
        obtain ⟨o4, va, vb, vc, vd, ve, rfl⟩ := hN.see
        have hr4 := hr.off o4 hrg
        have HE : Hid (NxEnd w g s oo _ ((((w4.setCell ⟨r, 0, none⟩ (.int .i8 va)).setCell ⟨r, 1, none⟩ (.string vb)).setCell ⟨r, 2, none⟩ (.int .i64 vc)).setCell ⟨r, 3, none⟩ (.int .i64 vd))) := hN.wrap hb1 HR.out hr.lt hrg.symm _ _ _ _
        have HW : Hid (TkC ((((w4.setCell ⟨r, 0, none⟩ (.int .i8 va)).setCell ⟨r, 1, none⟩ (.string vb)).setCell ⟨r, 2, none⟩ (.int .i64 vc)).setCell ⟨r, 3, none⟩ (.int .i64 vd)) r (.int .i8 va) (.string vb) (.int .i64 vc) (.int .i64 vd)) := hr4.write _ _ _ _
        obtain ⟨z0, z1, z2, z3⟩ := hr4.cells
        have f0 := hr4.thaw 0
        have f1 := hr4.thaw 1
        have f2 := hr4.thaw 2
        have f3 := hr4.thaw 3
        clear hN o4 hr4 hr hb1 hk hrg c0 c1
        go_wp2_with fail
        (try simp only [Exit.inBlock, Exit.then])
        exact bodyPost_ret (results_ctx (p := 2) (u := 3) rfl _ _ r 38 _ (0, 0) _ rfl HW.out Tryd.underlying38 rfl (by kernel_rfl)) rfl ⟨_, rfl, HE.out⟩
      by_cases h3 : kk = 3
      · rw [if_neg h2, if_pos h3] at ho
        have hcal := number_any g s j w6 hk (by omega) (by omega)
        rw [← ho] at hcal
        have x2 : (kk == 2) = false := beq_eq_false_iff_ne.2 h2
        have x3 : (kk == 3) = true := by rw [h3]; rfl
        clear ho hkk hb h2 h3
        go_wp2_with fail
        refine hcal.mono ?_
        rintro e w4 ⟨v, rfl, hN⟩
        clear hcal
        obtain ⟨o4, va, vb, vc, vd, ve, rfl⟩ := hN.see
        have hr4 := hr.off o4 hrg
        have HE : Hid (NxEnd w g s oo _ ((((w4.setCell ⟨r, 0, none⟩ (.int .i8 va)).setCell ⟨r, 1, none⟩ (.string vb)).setCell ⟨r, 2, none⟩ (.int .i64 vc)).setCell ⟨r, 3, none⟩ (.int .i64 vd))) := hN.wrap hb1 HR.out hr.lt hrg.symm _ _ _ _
        have HW : Hid (TkC ((((w4.setCell ⟨r, 0, none⟩ (.int .i8 va)).setCell ⟨r, 1, none⟩ (.string vb)).setCell ⟨r, 2, none⟩ (.int .i64 vc)).setCell ⟨r, 3, none⟩ (.int .i64 vd)) r (.int .i8 va) (.string vb) (.int .i64 vc) (.int .i64 vd)) := hr4.write _ _ _ _
        obtain ⟨z0, z1, z2, z3⟩ := hr4.cells
        have f0 := hr4.thaw 0
        have f1 := hr4.thaw 1
        have f2 := hr4.thaw 2
        have f3 := hr4.thaw 3
        clear hN o4 hr4 hr hb1 hk hrg c0 c1
        go_wp2_with fail
        (try simp only [Exit.inBlock, Exit.then])
        exact bodyPost_ret (results_ctx (p := 2) (u := 3) rfl _ _ r 38 _ (0, 0) _ rfl HW.out Tryd.underlying38 rfl (by kernel_rfl)) rfl ⟨_, rfl, HE.out⟩
      by_cases h4 : kk = 4
      · rw [if_neg h2, if_neg h3, if_pos h4] at ho
        have hcal := quoted_any g s j w6 hk (kd_quote (by rw [← hkk]; exact h4)) hz
        rw [← ho] at hcal
        have x2 : (kk == 2) = false := beq_eq_false_iff_ne.2 h2
        have x3 : (kk == 3) = false := beq_eq_false_iff_ne.2 h3
        have x4 : (kk == 4) = true := by rw [h4]; rfl
        clear ho hkk hb h2 h3 h4
        go_wp2_with fail
        refine hcal.mono ?_
        rintro e w4 ⟨v, rfl, hN⟩
        clear hcal
        obtain ⟨o4, va, vb, vc, vd, ve, rfl⟩ := hN.see
        have hr4 := hr.off o4 hrg
        have HE : Hid (NxEnd w g s oo _ ((((w4.setCell ⟨r, 0, none⟩ (.int .i8 va)).setCell ⟨r, 1, none⟩ (.string vb)).setCell ⟨r, 2, none⟩ (.int .i64 vc)).setCell ⟨r, 3, none⟩ (.int .i64 vd))) := hN.wrap hb1 HR.out hr.lt hrg.symm _ _ _ _
        have HW : Hid (TkC ((((w4.setCell ⟨r, 0, none⟩ (.int .i8 va)).setCell ⟨r, 1, none⟩ (.string vb)).setCell ⟨r, 2, none⟩ (.int .i64 vc)).setCell ⟨r, 3, none⟩ (.int .i64 vd)) r (.int .i8 va) (.string vb) (.int .i64 vc) (.int .i64 vd)) := hr4.write _ _ _ _
        obtain ⟨z0, z1, z2, z3⟩ := hr4.cells
        have f0 := hr4.thaw 0
        have f1 := hr4.thaw 1
        have f2 := hr4.thaw 2
        have f3 := hr4.thaw 3
        clear hN o4 hr4 hr hb1 hk hrg c0 c1
        go_wp2_with fail
        (try simp only [Exit.inBlock, Exit.then])
        exact bodyPost_ret (results_ctx (p := 2) (u := 3) rfl _ _ r 38 _ (0, 0) _ rfl HW.out Tryd.underlying38 rfl (by kernel_rfl)) rfl ⟨_, rfl, HE.out⟩
      by_cases h5 : kk = 5
      · rw [if_neg h2, if_neg h3, if_neg h4, if_pos h5] at ho
        obtain ⟨t1, t2⟩ := (NoNl.one (s := s) (i := j) (fun e => by rw [hkk, e] at h5; exact absurd h5 (by decide))).stays (by omega)
        have hcal := taken_any g s j (j + 1) 4 (lineOf s j) (colOf s j) w6 hk (by omega) (by omega) (by omega) t1 t2 rfl rfl
        rw [show ((j + 1 : Nat) : Int) = (j : Int) + 1 by omega] at hcal
        clear t1 t2
        rw [← ho] at hcal
        have x2 : (kk == 2) = false := beq_eq_false_iff_ne.2 h2
        have x3 : (kk == 3) = false := beq_eq_false_iff_ne.2 h3
        have x4 : (kk == 4) = false := beq_eq_false_iff_ne.2 h4
        have x5 : (kk == 5) = true := by rw [h5]; rfl
        clear ho hkk hb h2 h3 h4 h5
        go_wp2_with fail
        refine hcal.mono ?_
        rintro e w4 ⟨v, rfl, hN⟩
        clear hcal
        obtain ⟨o4, va, vb, vc, vd, ve, rfl⟩ := hN.see
        have hr4 := hr.off o4 hrg
        have HE : Hid (NxEnd w g s oo _ ((((w4.setCell ⟨r, 0, none⟩ (.int .i8 va)).setCell ⟨r, 1, none⟩ (.string vb)).setCell ⟨r, 2, none⟩ (.int .i64 vc)).setCell ⟨r, 3, none⟩ (.int .i64 vd))) := hN.wrap hb1 HR.out hr.lt hrg.symm _ _ _ _
        have HW : Hid (TkC ((((w4.setCell ⟨r, 0, none⟩ (.int .i8 va)).setCell ⟨r, 1, none⟩ (.string vb)).setCell ⟨r, 2, none⟩ (.int .i64 vc)).setCell ⟨r, 3, none⟩ (.int .i64 vd)) r (.int .i8 va) (.string vb) (.int .i64 vc) (.int .i64 vd)) := hr4.write _ _ _ _
        obtain ⟨z0, z1, z2, z3⟩ := hr4.cells
        have f0 := hr4.thaw 0
        have f1 := hr4.thaw 1
        have f2 := hr4.thaw 2
        have f3 := hr4.thaw 3
        clear hN o4 hr4 hr hb1 hk hrg c0 c1
        go_wp2_with fail
        (try simp only [Exit.inBlock, Exit.then])
        exact bodyPost_ret (results_ctx (p := 2) (u := 3) rfl _ _ r 38 _ (0, 0) _ rfl HW.out Tryd.underlying38 rfl (by kernel_rfl)) rfl ⟨_, rfl, HE.out⟩
      rw [if_neg h2, if_neg h3, if_neg h4, if_neg h5] at ho
      have hcal := fault_any g s j (j + 1) 20 (lineOf s j) (colOf s j) w6 hk (by omega) (by omega) (by omega) rfl rfl
      rw [show ((j + 1 : Nat) : Int) = (j : Int) + 1 by omega] at hcal
      rw [← ho] at hcal
      have x2 : (kk == 2) = false := beq_eq_false_iff_ne.2 h2
      have x3 : (kk == 3) = false := beq_eq_false_iff_ne.2 h3
      have x4 : (kk == 4) = false := beq_eq_false_iff_ne.2 h4
      have x5 : (kk == 5) = false := beq_eq_false_iff_ne.2 h5
      clear ho hkk hb h2 h3 h4 h5
      go_wp2_with fail
      refine hcal.mono ?_
      rintro e w4 ⟨v, rfl, hN⟩
      clear hcal
      obtain ⟨o4, va, vb, vc, vd, ve, rfl⟩ := hN.see
      have hr4 := hr.off o4 hrg
      have HE : Hid (NxEnd w g s oo _ ((((w4.setCell ⟨r, 0, none⟩ (.int .i8 va)).setCell ⟨r, 1, none⟩ (.string vb)).setCell ⟨r, 2, none⟩ (.int .i64 vc)).setCell ⟨r, 3, none⟩ (.int .i64 vd))) := hN.wrap hb1 HR.out hr.lt hrg.symm _ _ _ _
      have HW : Hid (TkC ((((w4.setCell ⟨r, 0, none⟩ (.int .i8 va)).setCell ⟨r, 1, none⟩ (.string vb)).setCell ⟨r, 2, none⟩ (.int .i64 vc)).setCell ⟨r, 3, none⟩ (.int .i64 vd)) r (.int .i8 va) (.string vb) (.int .i64 vc) (.int .i64 vd)) := hr4.write _ _ _ _
      obtain ⟨z0, z1, z2, z3⟩ := hr4.cells
      have f0 := hr4.thaw 0
      have f1 := hr4.thaw 1
      have f2 := hr4.thaw 2
      have f3 := hr4.thaw 3
      clear hN o4 hr4 hr hb1 hk hrg c0 c1
      go_wp2_with fail
      (try simp only [Exit.inBlock, Exit.then])
      exact bodyPost_ret (results_ctx (p := 2) (u := 3) rfl _ _ r 38 _ (0, 0) _ rfl HW.out Tryd.underlying38 rfl (by kernel_rfl)) rfl ⟨_, rfl, HE.out⟩
end Go.Proofs.YtlemnbegblpllaaDoor
