/-
  Proved here: what Of of package near answers.
-/
import Derived.Test.YtaekaikkldnikaaNearCAll
import Derived.Test.YtaekaikkldnikaaNearKAll
import Derived.Test.YtaekaikkldnikaaFracC
import Derived.WalkLawsBesides
namespace Go.Proofs.Ytaekaikkldnikaa
open Go.RowKit
attribute [local go_sem] run_f64bits3

/-- What Of leaves of a float that is no number. -/
def RFl (w : World) (e : Ending) (w' : World) : Prop := e = .returned (.tuple #[.agg #[.bool false, .slice none 0 0, .slice none 0 0], .int .i64 13]) ∧ Below w.heap.size w w'
theorem lt_nought {b : Nat} (hb : b < 18446744073709551616) (h : b % 2 ^ 63 ≤ 9218868437227405312) : (FloatKind.f64.format.order b 0 == some .lt) = (sgnb b && decide (b % 2 ^ 63 ≠ 0)) := by
  have h1 : FloatKind.f64.format.order b 0 = some (compare (fv b) (fv 0)) := order_fvb hb (by decide) h (by decide)
  have h2 : fv 0 = 0 := by decide
  have e2 : ∀ x y : Int, compare x y = if x < y then .lt else if x = y then .eq else .gt := fun _ _ => rfl
  rw [h1, h2, e2]
  have hz : fval 52 0 = 0 := by decide
  have hp : 0 < b % 2 ^ 63 → 0 < fval 52 (b % 2 ^ 63) := fun h => Nat.lt_of_le_of_lt (Nat.zero_le _) (fval_mono 52 h)
  unfold fv zv
  by_cases h0 : b % 2 ^ 63 = 0
  · rw [h0, hz]
    cases sgnb b <;> rfl
  · have hp := hp (Nat.pos_of_ne_zero h0)
    rw [decide_eq_true h0]
    obtain ⟨y, hy⟩ : ∃ y, y = fval 52 (b % 2 ^ 63) := ⟨_, rfl⟩
    rw [← hy] at hp ⊢
    cases sgnb b
    · have a1 : ¬ ((y : Int) < 0) := by omega
      have a2 : ¬ ((y : Int) = 0) := by omega
      show (some (if (y : Int) < 0 then Ordering.lt else if (y : Int) = 0 then Ordering.eq else Ordering.gt) == some Ordering.lt) = false
      rw [if_neg a1, if_neg a2]; rfl
    · rw [if_pos rfl, if_pos (by omega)]; rfl
theorem raised_need (u : Nat) (h : u < 18446744073709551616) : (lim u).length ≤ 100000 := Nat.le_trans (lim_len_le (k := 2) (by rw [show (4294967296 : Nat) ^ 2 = 18446744073709551616 from rfl]; exact h)) (by decide)
theorem up_one_ne (x : Int) : ((up 1 x : Nat) : Int) ≠ 0 := by
  unfold up
  have := Nat.two_pow_pos x.toNat
  omega
set_option maxRecDepth 100000 in
set_option maxHeartbeats 6400000 in
theorem of64_yes (b : Nat) (w : World) (hb : b < 18446744073709551616) (hf : b % 2 ^ 63 < 9218868437227405312) : Calls Try.prog 5 #[.float .f64 b] w fun e w' => RTEnd w (fR b) e w' := by
  obtain ⟨u, k, hr, h1, h2, hk⟩ := parts_of hf
  obtain ⟨nb, hnb⟩ : ∃ s, s = (sgnb b && decide (b % 2 ^ 63 ≠ 0)) := ⟨_, rfl⟩
  have hlt := lt_nought hb (Nat.le_of_lt hf)
  rw [← hnb] at hlt
  have hz0 := fR_parts nb hr h1 h2 hnb
  have hnan : ∀ w, Calls Try.prog 16 #[.float .f64 b] w fun e w' => e = .returned (.bool false) ∧ w' = w := fun w => by have h := isNaN64 b w; rw [nan_word, decide_eq_false (Nat.not_lt_of_le (Nat.le_of_lt hf))] at h; exact h
  have hinf : ∀ w, Calls Try.prog 17 #[.float .f64 b, .int .i64 0] w fun e w' => e = .returned (.bool false) ∧ w' = w := fun w => by have h := isInf64 b w hb (Nat.le_of_lt hf); rw [decide_eq_false (Nat.ne_of_lt hf)] at h; exact h
  have habs := fun w => abs64 b w hb
  rw [hr] at habs
  have hpt := fun w => partsD u k w h1 h2 (by omega)
  obtain ⟨r, hr2⟩ : ∃ r, r = u + k * 2 ^ 52 := ⟨_, rfl⟩
  rw [← hr2] at habs hpt
  clear hr hr2
  obtain ⟨x, hx⟩ : ∃ x, x = -1074 + (k : Int) := ⟨_, rfl⟩
  rw [show 1074 - (k : Int) = -x by omega, ← hx] at hz0
  rw [← hx] at hpt
  have hx1 : -1074 ≤ x := by omega
  have hx2 : x ≤ 2000 := by omega
  have hng : IntKind.i64.wrap (-x) = -x := by rw [IntKind.wrap_i64]; omega
  have hu64 : u < 18446744073709551616 := by omega
  obtain ⟨Z, hZ⟩ : ∃ Z, Z = fR b := ⟨_, rfl⟩
  rw [← hZ] at hz0 ⊢
  have HZ : Hid (_ = _) := hz0
  clear hz0 hZ hx hnb h1 h2 hk
  have hu1 := raised_need u
  have HU : Hid (u < 18446744073709551616) := hu64
  have HX1 : Hid (-1074 ≤ x) := hx1
  have HX2 : Hid (x ≤ 2000) := hx2
  clear hu64 hx1 hx2
  obtain ⟨W1, hW1⟩ : ∃ W1, W1 = w.alloc (.cells #[.bool false, .slice none 0 0, .slice none 0 0] 29) := ⟨_, rfl⟩
  have qR : QCell W1 (w.heap.size) false (.slice none 0 0) (.slice none 0 0) := by rw [hW1]; exact (qcell_new _ (by simp))
  have hb : Below w.heap.size w W1 := by rw [hW1]; exact belowA w _
  have hsz : w.heap.size < W1.heap.size := by rw [hW1]; simp
  have HW1 : Hid (W1 = w.alloc (.cells #[.bool false, .slice none 0 0, .slice none 0 0] 29)) := hW1
  clear hW1
  go_enter Try.func5, Try.ntmps5
  go_wp2_with fail
  rw [← HW1.out]
  clear HW1
  obtain ⟨g, hg⟩ : ∃ g, g = w.heap.size := ⟨_, rfl⟩
  rw [← hg] at qR hsz ⊢
  have HG : Hid (g = w.heap.size) := hg
  clear hg
  refine (hnan _).mono ?_
  rintro e w2 ⟨rfl, rfl⟩
  obtain ⟨cqR0, cqR1, cqR2⟩ := qR.cells
  go_wp2_with fail
  clear cqR0 cqR1 cqR2
  refine (hinf _).mono ?_
  rintro e w3 ⟨rfl, rfl⟩
  obtain ⟨cqR0, cqR1, cqR2⟩ := qR.cells
  go_wp2_with fail
  clear cqR0 cqR1 cqR2
  clear hnan hinf
  refine (kindD _).mono ?_
  rintro e w4 ⟨rfl, b⟩
  replace qR := qR.below b
  replace hb := bstep hb b
  replace hsz := Nat.lt_of_lt_of_le hsz b.size
  clear b
  obtain ⟨cqR0, cqR1, cqR2⟩ := qR.cells
  go_wp2_with fail
  clear cqR0 cqR1 cqR2
  refine (habs _).mono ?_
  rintro e w5 ⟨rfl, rfl⟩
  obtain ⟨cqR0, cqR1, cqR2⟩ := qR.cells
  go_wp2_with fail
  clear cqR0 cqR1 cqR2
  refine (hpt _).mono ?_
  rintro e w6 ⟨rfl, b⟩
  replace qR := qR.below b
  replace hb := bstep hb b
  replace hsz := Nat.lt_of_lt_of_le hsz b.size
  clear b
  obtain ⟨cqR0, cqR1, cqR2⟩ := qR.cells
  go_wp2_with fail
  clear cqR0 cqR1 cqR2
  clear habs hpt
  refine (of_any u _ HU.out).mono ?_
  rintro e w7 ⟨v, rfl, ho, b⟩
  obtain ⟨uo, ul, uc, rfl⟩ := ho.sl
  have un := ho.num
  clear ho
  replace qR := qR.below b
  replace hb := bstep hb b
  replace hsz := Nat.lt_of_lt_of_le hsz b.size
  clear b
  replace un := un
  obtain ⟨cqR0, cqR1, cqR2⟩ := qR.cells
  go_wp2_with fail
  clear cqR0 cqR1 cqR2
  refine (raised_any _ _ x _ un (hu1 HU.out) (by have := HX2.out; omega) (by have := HX1.out; omega)).mono ?_
  rintro e w8 ⟨ro, rl, rc, zs, rfl, rn, rv, rz, b⟩
  replace un := un.below (Nat.le_refl _) b
  replace qR := qR.below b
  replace hb := bstep hb b
  replace hsz := Nat.lt_of_lt_of_le hsz b.size
  clear b
  clear un
  have hq0 : ICell (w8.alloc (.cells #[.bool false, .slice none 0 0] 27)) w8.heap.size false (.slice none 0 0) := icell_new _ rfl
  obtain ⟨W7, hW7⟩ : ∃ W, W = w8.alloc (.cells #[.bool nb, .slice ro rl rc] 27) := ⟨_, rfl⟩
  have qN : ICell W7 w8.heap.size nb (.slice ro rl rc) := by rw [hW7]; exact icell_new _ rfl
  have b : Below w8.heap.size w8 W7 := by rw [hW7]; exact belowA _ _
  obtain ⟨z0, z1⟩ := hq0.cells
  have t0 := hq0.thaw 0
  have t1 := hq0.thaw 1
  clear hq0
  have HW7 : Hid (W7 = w8.alloc (.cells #[.bool nb, .slice ro rl rc] 27)) := hW7
  clear hW7
  go_wp2_with fail
  rw [← HW7.out]
  clear z0 z1 t0 t1 HW7
  replace rn := rn.below (Nat.le_refl _) b
  replace qR := qR.below b
  replace hb := bstep hb b
  replace hsz := Nat.lt_of_lt_of_le hsz b.size
  clear b
  obtain ⟨v7, hv7⟩ : ∃ v, v = w8.heap.size := ⟨_, rfl⟩
  rw [← hv7] at qN ⊢
  clear hv7
  have iN : INum W7 (.agg #[.bool nb, .slice ro rl rc]) (zv nb (up u x)) := ⟨_, _, _, _, zs, rfl, rn, (by have := hu1 HU.out; omega), by rw [rv, val_lim]⟩
  clear rn rv rz
  have hu1b : (lim 1).length ≤ 100000 := raised_need 1 (by decide)
  refine region_late [(0, fun w' => w'.cell? ⟨v7, 0, none⟩ = some (.bool nb) ∧ w'.cell? ⟨v7, 1, none⟩ = some (.slice ro rl rc))] (by kernel_rfl) ?_
  have hHeld : AllL W7.drew [(0, fun w' => w'.cell? ⟨v7, 0, none⟩ = some (.bool nb) ∧ w'.cell? ⟨v7, 1, none⟩ = some (.slice ro rl rc))] := ⟨(show ICell W7.drew (v7) nb (.slice ro rl rc) from qN).cells, trivial⟩
  refine late_take 0 (v := .agg #[.bool nb, .slice ro rl rc]) rfl (by kernel_rfl) (List.Mem.head _) (by kernel_rfl) (by kernel_rfl) (by kernel_rfl) (by kernel_rfl) (fun _ _ _ h => h) (Or.inl ⟨by rfl, ?_⟩) hHeld ?_
  · (intro u hu; (try dsimp only at hu); go_split_ands; go_simp)
  (try simp only [Act.put, List.setIfInBounds_toArray, List.set_cons_zero, List.set_cons_succ])
  refine late_free 2 (v := .int .i64 x) rfl (by kernel_rfl) (by kernel_rfl) (by kernel_rfl) (by kernel_rfl) (by kernel_rfl) (by kernel_rfl) (fun _ _ _ h => h) (Or.inl ⟨by rfl, ?_⟩) hHeld ?_
  · (intro u _; go_simp)
  (try simp only [Act.put, List.setIfInBounds_toArray, List.set_cons_zero, List.set_cons_succ])
  refine late_free 3 (v := .int .i64 (-x)) rfl (by kernel_rfl) (by kernel_rfl) (by kernel_rfl) (by kernel_rfl) (by kernel_rfl) (by kernel_rfl) (fun _ _ _ h => h) (Or.inl ⟨by rfl, ?_⟩) hHeld ?_
  · (intro u _; go_simp)
  (try simp only [Act.put, List.setIfInBounds_toArray, List.set_cons_zero, List.set_cons_succ])
  refine late_step 1 (by kernel_rfl) rfl (fun K hK => ?_)
  go_simp
  refine (of_any 1 _ (by decide)).mono ?_
  rintro e w9 ⟨v, rfl, ho, b9⟩
  obtain ⟨so, sl, sc, rfl⟩ := ho.sl
  have sn := ho.num
  clear ho
  have B9 : Below W7.heap.size W7 w9 := bstep (below_drew' _) b9
  clear hHeld
  have hHeld : AllL w9 [(0, fun w' => w'.cell? ⟨v7, 0, none⟩ = some (.bool nb) ∧ w'.cell? ⟨v7, 1, none⟩ = some (.slice ro rl rc))] := ⟨(qN.below B9).cells, trivial⟩
  go_wp2_with fail
  refine hK.out _ _ (AllL.kept hHeld) ?_
  clear hK K
  (try simp only [Act.put, List.setIfInBounds_toArray, List.set_cons_zero, List.set_cons_succ])
  refine late_step 4 (by kernel_rfl) rfl (fun K hK => ?_)
  go_simp
  refine (raised_any _ _ (-x) _ sn (hu1b) (by have := HX1.out; omega) (by have := HX2.out; omega)).mono ?_
  rintro e w10 ⟨yo, yl, yc, ys, rfl, yn, yv, yz, b10⟩
  have iD : INum w10 (.agg #[.bool false, .slice yo yl yc]) ((up 1 (-x) : Nat) : Int) := ⟨_, _, _, _, ys, rfl, yn, (by have := hu1b; omega), by rw [yv, val_lim]; rfl⟩
  clear yn yv yz
  have B10 : Below W7.heap.size W7 w10 := bstep B9 b10
  clear hHeld
  have hHeld : AllL w10 [(0, fun w' => w'.cell? ⟨v7, 0, none⟩ = some (.bool nb) ∧ w'.cell? ⟨v7, 1, none⟩ = some (.slice ro rl rc))] := ⟨(qN.below B10).cells, trivial⟩
  go_wp2_with fail
  refine hK.out _ _ (AllL.kept hHeld) ?_
  clear hK K
  (try simp only [Act.put, List.setIfInBounds_toArray, List.set_cons_zero, List.set_cons_succ])
  refine late_free 5 (v := .agg #[.bool false, .slice yo yl yc]) rfl (by kernel_rfl) (by kernel_rfl) (by kernel_rfl) (by kernel_rfl) (by kernel_rfl) (by kernel_rfl) (fun _ _ _ h => h) (Or.inl ⟨by rfl, ?_⟩) hHeld ?_
  · (intro u _; go_simp)
  (try simp only [Act.put, List.setIfInBounds_toArray, List.set_cons_zero, List.set_cons_succ])
  refine late_step 6 (by kernel_rfl) rfl (fun K hK => ?_)
  go_simp
  have hq := c_new_yes (((iN.below (below_drew' _)).below b9).below b10) iD (up_one_ne _)
  rw [HZ.out] at hq
  refine hq.mono ?_
  rintro e w11 ⟨v, rfl, hv, b11⟩
  clear hq
  obtain ⟨m, d, rfl, hm, hd, hap⟩ := hv
  obtain ⟨mo, ml, mc, rfl⟩ := hm.sl
  obtain ⟨mO, mL, mC, rfl⟩ := hd.sl
  have B11 : Below W7.heap.size W7 w11 := bstep B10 b11
  clear hHeld
  have hHeld : AllL w11 [(0, fun w' => w'.cell? ⟨v7, 0, none⟩ = some (.bool nb) ∧ w'.cell? ⟨v7, 1, none⟩ = some (.slice ro rl rc))] := ⟨(qN.below B11).cells, trivial⟩
  go_wp2_with fail
  refine hK.out _ _ (AllL.kept hHeld) ?_
  clear hK K
  (try simp only [Act.put, List.setIfInBounds_toArray, List.set_cons_zero, List.set_cons_succ])
  refine late_free 7 (v := .agg #[.bool (decide (Z.num < 0)), .slice mo ml mc, .slice mO mL mC]) rfl (by kernel_rfl) (by kernel_rfl) (by kernel_rfl) (by kernel_rfl) (by kernel_rfl) (by kernel_rfl) (fun _ _ _ h => h) (Or.inl ⟨by rfl, ?_⟩) hHeld ?_
  · (intro u _; go_simp)
  (try simp only [Act.put, List.setIfInBounds_toArray, List.set_cons_zero, List.set_cons_succ])
  refine late_free 8 (v := .int .i64 0) rfl (by kernel_rfl) (by kernel_rfl) (by kernel_rfl) (by kernel_rfl) (by kernel_rfl) (by kernel_rfl) (fun _ _ _ h => h) (Or.inl ⟨by rfl, ?_⟩) hHeld ?_
  · (intro u _; go_simp)
  (try simp only [Act.put, List.setIfInBounds_toArray, List.set_cons_zero, List.set_cons_succ])
  have qq := qR.below B11
  have HE : Hid (REnd w Z (.returned (.agg #[.bool (decide (Z.num < 0)), .slice mo ml mc, .slice mO mL mC])) (((w11.setCell ⟨g, 0, none⟩ (.bool (decide (Z.num < 0)))).setCell ⟨g, 1, none⟩ (.slice mo ml mc)).setCell ⟨g, 2, none⟩ (.slice mO mL mC))) := rat_done rfl (by rw [HG.out]; omega) hm hd hap (Nat.lt_of_lt_of_le hsz B10.size) (bstep hb B11)
  have HW : Hid (QCell (((w11.setCell ⟨g, 0, none⟩ (.bool (decide (Z.num < 0)))).setCell ⟨g, 1, none⟩ (.slice mo ml mc)).setCell ⟨g, 2, none⟩ (.slice mO mL mC)) (g) (decide (Z.num < 0)) (.slice mo ml mc) (.slice mO mL mC)) := qq.write _ _ _
  obtain ⟨y0, y1, y2⟩ := qq.cells
  have f0 := qq.thaw 0
  have f1 := qq.thaw 1
  have f2 := qq.thaw 2
  generalize decide (Z.num < 0) = bb at *
  clear qq hap
  clear iD sn
  refine late_step 9 (by kernel_rfl) rfl (fun K hK => ?_)
  go_simp
  refine hK.out _ _ ⟨Or.inl ⟨6, by kernel_rfl, by kernel_rfl⟩, trivial⟩ ?_
  clear hK K
  (try simp only [Act.put, List.setIfInBounds_toArray, List.set_cons_zero, List.set_cons_succ])
  refine late_step 10 (by kernel_rfl) rfl (fun K hK => ?_)
  go_simp
  refine hK.out _ _ ⟨Or.inl ⟨6, by kernel_rfl, by kernel_rfl⟩, trivial⟩ ?_
  clear hK K
  (try simp only [Act.put, List.setIfInBounds_toArray, List.set_cons_zero, List.set_cons_succ])
  refine late_done (by kernel_rfl) ?_ _
  clear hHeld
  clear hb hsz hm hd qR qN iN b9 b10 b11 B9 B10 B11
  go_wp2_with fail
  (try simp only [Exit.inBlock, Exit.then])
  exact bodyPost_ret (results_ct (p := 2) (u := 3) rfl _ _ (g) 29 _ (0, 0) _ rfl HW.out Try.underlying29 rfl (by kernel_rfl)) rfl HE.out.t
set_option maxRecDepth 100000 in
set_option maxHeartbeats 6400000 in
theorem of64_no (b : Nat) (w : World) (hb : b < 18446744073709551616) (hf : 9218868437227405312 ≤ b % 2 ^ 63) : Calls Try.prog 5 #[.float .f64 b] w fun e w' => RFl w e w' := by
  rcases Nat.lt_or_ge 9218868437227405312 (b % 2 ^ 63) with h | h
  · have hd : (Ieee.double.read b).isNaN = true := by rw [nan_word, decide_eq_true h]
    have hnan : ∀ w, Calls Try.prog 16 #[.float .f64 b] w fun e w' => e = .returned (.bool true) ∧ w' = w := fun w => by have h := isNaN64 b w; rw [hd] at h; exact h
    obtain ⟨W1, hW1⟩ : ∃ W1, W1 = w.alloc (.cells #[.bool false, .slice none 0 0, .slice none 0 0] 29) := ⟨_, rfl⟩
    have qR : QCell W1 (w.heap.size) false (.slice none 0 0) (.slice none 0 0) := by rw [hW1]; exact (qcell_new _ (by simp))
    have hb : Below w.heap.size w W1 := by rw [hW1]; exact belowA w _
    have hsz : w.heap.size < W1.heap.size := by rw [hW1]; simp
    have HW1 : Hid (W1 = w.alloc (.cells #[.bool false, .slice none 0 0, .slice none 0 0] 29)) := hW1
    clear hW1
    go_enter Try.func5, Try.ntmps5
    go_wp2_with fail
    rw [← HW1.out]
    clear HW1
    obtain ⟨g, hg⟩ : ∃ g, g = w.heap.size := ⟨_, rfl⟩
    rw [← hg] at qR hsz ⊢
    have HG : Hid (g = w.heap.size) := hg
    clear hg
    refine (hnan _).mono ?_
    rintro e w2 ⟨rfl, rfl⟩
    clear hnan
    have HE : Hid (Below w.heap.size w (((w2.setCell ⟨g, 0, none⟩ (.bool false)).setCell ⟨g, 1, none⟩ (.slice none 0 0)).setCell ⟨g, 2, none⟩ (.slice none 0 0))) := iend3 hb (by rw [HG.out]; omega)
    have HW : Hid (QCell (((w2.setCell ⟨g, 0, none⟩ (.bool false)).setCell ⟨g, 1, none⟩ (.slice none 0 0)).setCell ⟨g, 2, none⟩ (.slice none 0 0)) (g) false (.slice none 0 0) (.slice none 0 0)) := qR.write _ _ _
    obtain ⟨y0, y1, y2⟩ := qR.cells
    have f0 := qR.thaw 0
    have f1 := qR.thaw 1
    have f2 := qR.thaw 2
    clear hb hsz qR
    go_wp2_with fail
    (try simp only [Exit.inBlock, Exit.then])
    exact bodyPost_ret (results_ct (p := 2) (u := 3) rfl _ _ (g) 29 _ (0, 0) _ rfl HW.out Try.underlying29 rfl (by kernel_rfl)) rfl ⟨rfl, HE.out⟩
  · have h : b % 2 ^ 63 = 9218868437227405312 := by omega
    have hnan : ∀ w, Calls Try.prog 16 #[.float .f64 b] w fun e w' => e = .returned (.bool false) ∧ w' = w := fun w => by have h2 := isNaN64 b w; rw [nan_word, decide_eq_false (by omega)] at h2; exact h2
    have hinf : ∀ w, Calls Try.prog 17 #[.float .f64 b, .int .i64 0] w fun e w' => e = .returned (.bool true) ∧ w' = w := fun w => by have h2 := isInf64 b w hb (by omega); rw [decide_eq_true h] at h2; exact h2
    obtain ⟨W1, hW1⟩ : ∃ W1, W1 = w.alloc (.cells #[.bool false, .slice none 0 0, .slice none 0 0] 29) := ⟨_, rfl⟩
    have qR : QCell W1 (w.heap.size) false (.slice none 0 0) (.slice none 0 0) := by rw [hW1]; exact (qcell_new _ (by simp))
    have hb : Below w.heap.size w W1 := by rw [hW1]; exact belowA w _
    have hsz : w.heap.size < W1.heap.size := by rw [hW1]; simp
    have HW1 : Hid (W1 = w.alloc (.cells #[.bool false, .slice none 0 0, .slice none 0 0] 29)) := hW1
    clear hW1
    go_enter Try.func5, Try.ntmps5
    go_wp2_with fail
    rw [← HW1.out]
    clear HW1
    obtain ⟨g, hg⟩ : ∃ g, g = w.heap.size := ⟨_, rfl⟩
    rw [← hg] at qR hsz ⊢
    have HG : Hid (g = w.heap.size) := hg
    clear hg
    refine (hnan _).mono ?_
    rintro e w2 ⟨rfl, rfl⟩
    obtain ⟨cqR0, cqR1, cqR2⟩ := qR.cells
    go_wp2_with fail
    clear cqR0 cqR1 cqR2
    refine (hinf _).mono ?_
    rintro e w3 ⟨rfl, rfl⟩
    clear hinf
    clear hnan
    have HE : Hid (Below w.heap.size w (((w3.setCell ⟨g, 0, none⟩ (.bool false)).setCell ⟨g, 1, none⟩ (.slice none 0 0)).setCell ⟨g, 2, none⟩ (.slice none 0 0))) := iend3 hb (by rw [HG.out]; omega)
    have HW : Hid (QCell (((w3.setCell ⟨g, 0, none⟩ (.bool false)).setCell ⟨g, 1, none⟩ (.slice none 0 0)).setCell ⟨g, 2, none⟩ (.slice none 0 0)) (g) false (.slice none 0 0) (.slice none 0 0)) := qR.write _ _ _
    obtain ⟨y0, y1, y2⟩ := qR.cells
    have f0 := qR.thaw 0
    have f1 := qR.thaw 1
    have f2 := qR.thaw 2
    clear hb hsz qR
    go_wp2_with fail
    (try simp only [Exit.inBlock, Exit.then])
    exact bodyPost_ret (results_ct (p := 2) (u := 3) rfl _ _ (g) 29 _ (0, 0) _ rfl HW.out Try.underlying29 rfl (by kernel_rfl)) rfl ⟨rfl, HE.out⟩
set_option maxRecDepth 100000 in
set_option maxHeartbeats 6400000 in
theorem ofM_yes (b : Nat) (w : World) (hb : b < 18446744073709551616) (hf : b % 2 ^ 63 < 9218868437227405312) : Calls Try.prog 6 #[.float .f64 b] w fun e w' => RTEnd w (fR b) e w' := by
  obtain ⟨u, k, hr, h1, h2, hk⟩ := parts_of hf
  obtain ⟨nb, hnb⟩ : ∃ s, s = (sgnb b && decide (b % 2 ^ 63 ≠ 0)) := ⟨_, rfl⟩
  have hlt := lt_nought hb (Nat.le_of_lt hf)
  rw [← hnb] at hlt
  have hz0 := fR_parts nb hr h1 h2 hnb
  have hnan : ∀ w, Calls Try.prog 16 #[.float .f64 b] w fun e w' => e = .returned (.bool false) ∧ w' = w := fun w => by have h := isNaN64 b w; rw [nan_word, decide_eq_false (Nat.not_lt_of_le (Nat.le_of_lt hf))] at h; exact h
  have hinf : ∀ w, Calls Try.prog 17 #[.float .f64 b, .int .i64 0] w fun e w' => e = .returned (.bool false) ∧ w' = w := fun w => by have h := isInf64 b w hb (Nat.le_of_lt hf); rw [decide_eq_false (Nat.ne_of_lt hf)] at h; exact h
  have habs := fun w => abs64 b w hb
  rw [hr] at habs
  have hpt := fun w => partsD u k w h1 h2 (by omega)
  obtain ⟨r, hr2⟩ : ∃ r, r = u + k * 2 ^ 52 := ⟨_, rfl⟩
  rw [← hr2] at habs hpt
  clear hr hr2
  obtain ⟨x, hx⟩ : ∃ x, x = -1074 + (k : Int) := ⟨_, rfl⟩
  rw [show 1074 - (k : Int) = -x by omega, ← hx] at hz0
  rw [← hx] at hpt
  have hx1 : -1074 ≤ x := by omega
  have hx2 : x ≤ 2000 := by omega
  have hng : IntKind.i64.wrap (-x) = -x := by rw [IntKind.wrap_i64]; omega
  have hu64 : u < 18446744073709551616 := by omega
  obtain ⟨Z, hZ⟩ : ∃ Z, Z = fR b := ⟨_, rfl⟩
  rw [← hZ] at hz0 ⊢
  have HZ : Hid (_ = _) := hz0
  clear hz0 hZ hx hnb h1 h2 hk
  have hu1 := raised_need u
  have HU : Hid (u < 18446744073709551616) := hu64
  have HX1 : Hid (-1074 ≤ x) := hx1
  have HX2 : Hid (x ≤ 2000) := hx2
  clear hu64 hx1 hx2
  obtain ⟨W1, hW1⟩ : ∃ W1, W1 = w.alloc (.cells #[.bool false, .slice none 0 0, .slice none 0 0] 29) := ⟨_, rfl⟩
  have qR : QCell W1 (w.heap.size) false (.slice none 0 0) (.slice none 0 0) := by rw [hW1]; exact (qcell_new _ (by simp))
  have hb : Below w.heap.size w W1 := by rw [hW1]; exact belowA w _
  have hsz : w.heap.size < W1.heap.size := by rw [hW1]; simp
  have HW1 : Hid (W1 = w.alloc (.cells #[.bool false, .slice none 0 0, .slice none 0 0] 29)) := hW1
  clear hW1
  go_enter Try.func6, Try.ntmps6
  go_wp2_with fail
  rw [← HW1.out]
  clear HW1
  obtain ⟨g, hg⟩ : ∃ g, g = w.heap.size := ⟨_, rfl⟩
  rw [← hg] at qR hsz ⊢
  have HG : Hid (g = w.heap.size) := hg
  clear hg
  refine (hnan _).mono ?_
  rintro e w2 ⟨rfl, rfl⟩
  obtain ⟨cqR0, cqR1, cqR2⟩ := qR.cells
  go_wp2_with fail
  clear cqR0 cqR1 cqR2
  refine (hinf _).mono ?_
  rintro e w3 ⟨rfl, rfl⟩
  obtain ⟨cqR0, cqR1, cqR2⟩ := qR.cells
  go_wp2_with fail
  clear cqR0 cqR1 cqR2
  clear hnan hinf
  refine (kindD _).mono ?_
  rintro e w4 ⟨rfl, b⟩
  replace qR := qR.below b
  replace hb := bstep hb b
  replace hsz := Nat.lt_of_lt_of_le hsz b.size
  clear b
  obtain ⟨cqR0, cqR1, cqR2⟩ := qR.cells
  go_wp2_with fail
  clear cqR0 cqR1 cqR2
  refine (habs _).mono ?_
  rintro e w5 ⟨rfl, rfl⟩
  obtain ⟨cqR0, cqR1, cqR2⟩ := qR.cells
  go_wp2_with fail
  clear cqR0 cqR1 cqR2
  refine (hpt _).mono ?_
  rintro e w6 ⟨rfl, b⟩
  replace qR := qR.below b
  replace hb := bstep hb b
  replace hsz := Nat.lt_of_lt_of_le hsz b.size
  clear b
  obtain ⟨cqR0, cqR1, cqR2⟩ := qR.cells
  go_wp2_with fail
  clear cqR0 cqR1 cqR2
  clear habs hpt
  refine (of_any u _ HU.out).mono ?_
  rintro e w7 ⟨v, rfl, ho, b⟩
  obtain ⟨uo, ul, uc, rfl⟩ := ho.sl
  have un := ho.num
  clear ho
  replace qR := qR.below b
  replace hb := bstep hb b
  replace hsz := Nat.lt_of_lt_of_le hsz b.size
  clear b
  replace un := un
  obtain ⟨cqR0, cqR1, cqR2⟩ := qR.cells
  go_wp2_with fail
  clear cqR0 cqR1 cqR2
  refine (raised_any _ _ x _ un (hu1 HU.out) (by have := HX2.out; omega) (by have := HX1.out; omega)).mono ?_
  rintro e w8 ⟨ro, rl, rc, zs, rfl, rn, rv, rz, b⟩
  replace un := un.below (Nat.le_refl _) b
  replace qR := qR.below b
  replace hb := bstep hb b
  replace hsz := Nat.lt_of_lt_of_le hsz b.size
  clear b
  clear un
  have hq0 : ICell (w8.alloc (.cells #[.bool false, .slice none 0 0] 27)) w8.heap.size false (.slice none 0 0) := icell_new _ rfl
  obtain ⟨W7, hW7⟩ : ∃ W, W = w8.alloc (.cells #[.bool nb, .slice ro rl rc] 27) := ⟨_, rfl⟩
  have qN : ICell W7 w8.heap.size nb (.slice ro rl rc) := by rw [hW7]; exact icell_new _ rfl
  have b : Below w8.heap.size w8 W7 := by rw [hW7]; exact belowA _ _
  obtain ⟨z0, z1⟩ := hq0.cells
  have t0 := hq0.thaw 0
  have t1 := hq0.thaw 1
  clear hq0
  have HW7 : Hid (W7 = w8.alloc (.cells #[.bool nb, .slice ro rl rc] 27)) := hW7
  clear hW7
  go_wp2_with fail
  rw [← HW7.out]
  clear z0 z1 t0 t1 HW7
  replace rn := rn.below (Nat.le_refl _) b
  replace qR := qR.below b
  replace hb := bstep hb b
  replace hsz := Nat.lt_of_lt_of_le hsz b.size
  clear b
  obtain ⟨v7, hv7⟩ : ∃ v, v = w8.heap.size := ⟨_, rfl⟩
  rw [← hv7] at qN ⊢
  clear hv7
  have iN : INum W7 (.agg #[.bool nb, .slice ro rl rc]) (zv nb (up u x)) := ⟨_, _, _, _, zs, rfl, rn, (by have := hu1 HU.out; omega), by rw [rv, val_lim]⟩
  clear rn rv rz
  have hu1b : (lim 1).length ≤ 100000 := raised_need 1 (by decide)
  refine region_late [(0, fun w' => w'.cell? ⟨v7, 0, none⟩ = some (.bool nb) ∧ w'.cell? ⟨v7, 1, none⟩ = some (.slice ro rl rc))] (by kernel_rfl) ?_
  have hHeld : AllL W7.drew [(0, fun w' => w'.cell? ⟨v7, 0, none⟩ = some (.bool nb) ∧ w'.cell? ⟨v7, 1, none⟩ = some (.slice ro rl rc))] := ⟨(show ICell W7.drew (v7) nb (.slice ro rl rc) from qN).cells, trivial⟩
  refine late_take 0 (v := .agg #[.bool nb, .slice ro rl rc]) rfl (by kernel_rfl) (List.Mem.head _) (by kernel_rfl) (by kernel_rfl) (by kernel_rfl) (by kernel_rfl) (fun _ _ _ h => h) (Or.inl ⟨by rfl, ?_⟩) hHeld ?_
  · (intro u hu; (try dsimp only at hu); go_split_ands; go_simp)
  (try simp only [Act.put, List.setIfInBounds_toArray, List.set_cons_zero, List.set_cons_succ])
  refine late_free 2 (v := .int .i64 x) rfl (by kernel_rfl) (by kernel_rfl) (by kernel_rfl) (by kernel_rfl) (by kernel_rfl) (by kernel_rfl) (fun _ _ _ h => h) (Or.inl ⟨by rfl, ?_⟩) hHeld ?_
  · (intro u _; go_simp)
  (try simp only [Act.put, List.setIfInBounds_toArray, List.set_cons_zero, List.set_cons_succ])
  refine late_free 3 (v := .int .i64 (-x)) rfl (by kernel_rfl) (by kernel_rfl) (by kernel_rfl) (by kernel_rfl) (by kernel_rfl) (by kernel_rfl) (fun _ _ _ h => h) (Or.inl ⟨by rfl, ?_⟩) hHeld ?_
  · (intro u _; go_simp)
  (try simp only [Act.put, List.setIfInBounds_toArray, List.set_cons_zero, List.set_cons_succ])
  refine late_step 1 (by kernel_rfl) rfl (fun K hK => ?_)
  go_simp
  refine (of_any 1 _ (by decide)).mono ?_
  rintro e w9 ⟨v, rfl, ho, b9⟩
  obtain ⟨so, sl, sc, rfl⟩ := ho.sl
  have sn := ho.num
  clear ho
  have B9 : Below W7.heap.size W7 w9 := bstep (below_drew' _) b9
  clear hHeld
  have hHeld : AllL w9 [(0, fun w' => w'.cell? ⟨v7, 0, none⟩ = some (.bool nb) ∧ w'.cell? ⟨v7, 1, none⟩ = some (.slice ro rl rc))] := ⟨(qN.below B9).cells, trivial⟩
  go_wp2_with fail
  refine hK.out _ _ (AllL.kept hHeld) ?_
  clear hK K
  (try simp only [Act.put, List.setIfInBounds_toArray, List.set_cons_zero, List.set_cons_succ])
  refine late_step 4 (by kernel_rfl) rfl (fun K hK => ?_)
  go_simp
  refine (raised_any _ _ (-x) _ sn (hu1b) (by have := HX1.out; omega) (by have := HX2.out; omega)).mono ?_
  rintro e w10 ⟨yo, yl, yc, ys, rfl, yn, yv, yz, b10⟩
  have iD : INum w10 (.agg #[.bool false, .slice yo yl yc]) ((up 1 (-x) : Nat) : Int) := ⟨_, _, _, _, ys, rfl, yn, (by have := hu1b; omega), by rw [yv, val_lim]; rfl⟩
  clear yn yv yz
  have B10 : Below W7.heap.size W7 w10 := bstep B9 b10
  clear hHeld
  have hHeld : AllL w10 [(0, fun w' => w'.cell? ⟨v7, 0, none⟩ = some (.bool nb) ∧ w'.cell? ⟨v7, 1, none⟩ = some (.slice ro rl rc))] := ⟨(qN.below B10).cells, trivial⟩
  go_wp2_with fail
  refine hK.out _ _ (AllL.kept hHeld) ?_
  clear hK K
  (try simp only [Act.put, List.setIfInBounds_toArray, List.set_cons_zero, List.set_cons_succ])
  refine late_free 5 (v := .agg #[.bool false, .slice yo yl yc]) rfl (by kernel_rfl) (by kernel_rfl) (by kernel_rfl) (by kernel_rfl) (by kernel_rfl) (by kernel_rfl) (fun _ _ _ h => h) (Or.inl ⟨by rfl, ?_⟩) hHeld ?_
  · (intro u _; go_simp)
  (try simp only [Act.put, List.setIfInBounds_toArray, List.set_cons_zero, List.set_cons_succ])
  refine late_step 6 (by kernel_rfl) rfl (fun K hK => ?_)
  go_simp
  have hq := c_new_yes (((iN.below (below_drew' _)).below b9).below b10) iD (up_one_ne _)
  rw [HZ.out] at hq
  refine hq.mono ?_
  rintro e w11 ⟨v, rfl, hv, b11⟩
  clear hq
  obtain ⟨m, d, rfl, hm, hd, hap⟩ := hv
  obtain ⟨mo, ml, mc, rfl⟩ := hm.sl
  obtain ⟨mO, mL, mC, rfl⟩ := hd.sl
  have B11 : Below W7.heap.size W7 w11 := bstep B10 b11
  clear hHeld
  have hHeld : AllL w11 [(0, fun w' => w'.cell? ⟨v7, 0, none⟩ = some (.bool nb) ∧ w'.cell? ⟨v7, 1, none⟩ = some (.slice ro rl rc))] := ⟨(qN.below B11).cells, trivial⟩
  go_wp2_with fail
  refine hK.out _ _ (AllL.kept hHeld) ?_
  clear hK K
  (try simp only [Act.put, List.setIfInBounds_toArray, List.set_cons_zero, List.set_cons_succ])
  refine late_free 7 (v := .agg #[.bool (decide (Z.num < 0)), .slice mo ml mc, .slice mO mL mC]) rfl (by kernel_rfl) (by kernel_rfl) (by kernel_rfl) (by kernel_rfl) (by kernel_rfl) (by kernel_rfl) (fun _ _ _ h => h) (Or.inl ⟨by rfl, ?_⟩) hHeld ?_
  · (intro u _; go_simp)
  (try simp only [Act.put, List.setIfInBounds_toArray, List.set_cons_zero, List.set_cons_succ])
  refine late_free 8 (v := .int .i64 0) rfl (by kernel_rfl) (by kernel_rfl) (by kernel_rfl) (by kernel_rfl) (by kernel_rfl) (by kernel_rfl) (fun _ _ _ h => h) (Or.inl ⟨by rfl, ?_⟩) hHeld ?_
  · (intro u _; go_simp)
  (try simp only [Act.put, List.setIfInBounds_toArray, List.set_cons_zero, List.set_cons_succ])
  have qq := qR.below B11
  have HE : Hid (REnd w Z (.returned (.agg #[.bool (decide (Z.num < 0)), .slice mo ml mc, .slice mO mL mC])) (((w11.setCell ⟨g, 0, none⟩ (.bool (decide (Z.num < 0)))).setCell ⟨g, 1, none⟩ (.slice mo ml mc)).setCell ⟨g, 2, none⟩ (.slice mO mL mC))) := rat_done rfl (by rw [HG.out]; omega) hm hd hap (Nat.lt_of_lt_of_le hsz B10.size) (bstep hb B11)
  have HW : Hid (QCell (((w11.setCell ⟨g, 0, none⟩ (.bool (decide (Z.num < 0)))).setCell ⟨g, 1, none⟩ (.slice mo ml mc)).setCell ⟨g, 2, none⟩ (.slice mO mL mC)) (g) (decide (Z.num < 0)) (.slice mo ml mc) (.slice mO mL mC)) := qq.write _ _ _
  obtain ⟨y0, y1, y2⟩ := qq.cells
  have f0 := qq.thaw 0
  have f1 := qq.thaw 1
  have f2 := qq.thaw 2
  generalize decide (Z.num < 0) = bb at *
  clear qq hap
  clear iD sn
  refine late_step 9 (by kernel_rfl) rfl (fun K hK => ?_)
  go_simp
  refine hK.out _ _ ⟨Or.inl ⟨6, by kernel_rfl, by kernel_rfl⟩, trivial⟩ ?_
  clear hK K
  (try simp only [Act.put, List.setIfInBounds_toArray, List.set_cons_zero, List.set_cons_succ])
  refine late_step 10 (by kernel_rfl) rfl (fun K hK => ?_)
  go_simp
  refine hK.out _ _ ⟨Or.inl ⟨6, by kernel_rfl, by kernel_rfl⟩, trivial⟩ ?_
  clear hK K
  (try simp only [Act.put, List.setIfInBounds_toArray, List.set_cons_zero, List.set_cons_succ])
  refine late_done (by kernel_rfl) ?_ _
  clear hHeld
  clear hb hsz hm hd qR qN iN b9 b10 b11 B9 B10 B11
  go_wp2_with fail
  (try simp only [Exit.inBlock, Exit.then])
  exact bodyPost_ret (results_ct (p := 2) (u := 3) rfl _ _ (g) 29 _ (0, 0) _ rfl HW.out Try.underlying29 rfl (by kernel_rfl)) rfl HE.out.t
set_option maxRecDepth 100000 in
set_option maxHeartbeats 6400000 in
theorem ofM_no (b : Nat) (w : World) (hb : b < 18446744073709551616) (hf : 9218868437227405312 ≤ b % 2 ^ 63) : Calls Try.prog 6 #[.float .f64 b] w fun e w' => RFl w e w' := by
  rcases Nat.lt_or_ge 9218868437227405312 (b % 2 ^ 63) with h | h
  · have hd : (Ieee.double.read b).isNaN = true := by rw [nan_word, decide_eq_true h]
    have hnan : ∀ w, Calls Try.prog 16 #[.float .f64 b] w fun e w' => e = .returned (.bool true) ∧ w' = w := fun w => by have h := isNaN64 b w; rw [hd] at h; exact h
    obtain ⟨W1, hW1⟩ : ∃ W1, W1 = w.alloc (.cells #[.bool false, .slice none 0 0, .slice none 0 0] 29) := ⟨_, rfl⟩
    have qR : QCell W1 (w.heap.size) false (.slice none 0 0) (.slice none 0 0) := by rw [hW1]; exact (qcell_new _ (by simp))
    have hb : Below w.heap.size w W1 := by rw [hW1]; exact belowA w _
    have hsz : w.heap.size < W1.heap.size := by rw [hW1]; simp
    have HW1 : Hid (W1 = w.alloc (.cells #[.bool false, .slice none 0 0, .slice none 0 0] 29)) := hW1
    clear hW1
    go_enter Try.func6, Try.ntmps6
    go_wp2_with fail
    rw [← HW1.out]
    clear HW1
    obtain ⟨g, hg⟩ : ∃ g, g = w.heap.size := ⟨_, rfl⟩
    rw [← hg] at qR hsz ⊢
    have HG : Hid (g = w.heap.size) := hg
    clear hg
    refine (hnan _).mono ?_
    rintro e w2 ⟨rfl, rfl⟩
    clear hnan
    have HE : Hid (Below w.heap.size w (((w2.setCell ⟨g, 0, none⟩ (.bool false)).setCell ⟨g, 1, none⟩ (.slice none 0 0)).setCell ⟨g, 2, none⟩ (.slice none 0 0))) := iend3 hb (by rw [HG.out]; omega)
    have HW : Hid (QCell (((w2.setCell ⟨g, 0, none⟩ (.bool false)).setCell ⟨g, 1, none⟩ (.slice none 0 0)).setCell ⟨g, 2, none⟩ (.slice none 0 0)) (g) false (.slice none 0 0) (.slice none 0 0)) := qR.write _ _ _
    obtain ⟨y0, y1, y2⟩ := qR.cells
    have f0 := qR.thaw 0
    have f1 := qR.thaw 1
    have f2 := qR.thaw 2
    clear hb hsz qR
    go_wp2_with fail
    (try simp only [Exit.inBlock, Exit.then])
    exact bodyPost_ret (results_ct (p := 2) (u := 3) rfl _ _ (g) 29 _ (0, 0) _ rfl HW.out Try.underlying29 rfl (by kernel_rfl)) rfl ⟨rfl, HE.out⟩
  · have h : b % 2 ^ 63 = 9218868437227405312 := by omega
    have hnan : ∀ w, Calls Try.prog 16 #[.float .f64 b] w fun e w' => e = .returned (.bool false) ∧ w' = w := fun w => by have h2 := isNaN64 b w; rw [nan_word, decide_eq_false (by omega)] at h2; exact h2
    have hinf : ∀ w, Calls Try.prog 17 #[.float .f64 b, .int .i64 0] w fun e w' => e = .returned (.bool true) ∧ w' = w := fun w => by have h2 := isInf64 b w hb (by omega); rw [decide_eq_true h] at h2; exact h2
    obtain ⟨W1, hW1⟩ : ∃ W1, W1 = w.alloc (.cells #[.bool false, .slice none 0 0, .slice none 0 0] 29) := ⟨_, rfl⟩
    have qR : QCell W1 (w.heap.size) false (.slice none 0 0) (.slice none 0 0) := by rw [hW1]; exact (qcell_new _ (by simp))
    have hb : Below w.heap.size w W1 := by rw [hW1]; exact belowA w _
    have hsz : w.heap.size < W1.heap.size := by rw [hW1]; simp
    have HW1 : Hid (W1 = w.alloc (.cells #[.bool false, .slice none 0 0, .slice none 0 0] 29)) := hW1
    clear hW1
    go_enter Try.func6, Try.ntmps6
    go_wp2_with fail
    rw [← HW1.out]
    clear HW1
    obtain ⟨g, hg⟩ : ∃ g, g = w.heap.size := ⟨_, rfl⟩
    rw [← hg] at qR hsz ⊢
    have HG : Hid (g = w.heap.size) := hg
    clear hg
    refine (hnan _).mono ?_
    rintro e w2 ⟨rfl, rfl⟩
    obtain ⟨cqR0, cqR1, cqR2⟩ := qR.cells
    go_wp2_with fail
    clear cqR0 cqR1 cqR2
    refine (hinf _).mono ?_
    rintro e w3 ⟨rfl, rfl⟩
    clear hinf
    clear hnan
    have HE : Hid (Below w.heap.size w (((w3.setCell ⟨g, 0, none⟩ (.bool false)).setCell ⟨g, 1, none⟩ (.slice none 0 0)).setCell ⟨g, 2, none⟩ (.slice none 0 0))) := iend3 hb (by rw [HG.out]; omega)
    have HW : Hid (QCell (((w3.setCell ⟨g, 0, none⟩ (.bool false)).setCell ⟨g, 1, none⟩ (.slice none 0 0)).setCell ⟨g, 2, none⟩ (.slice none 0 0)) (g) false (.slice none 0 0) (.slice none 0 0)) := qR.write _ _ _
    obtain ⟨y0, y1, y2⟩ := qR.cells
    have f0 := qR.thaw 0
    have f1 := qR.thaw 1
    have f2 := qR.thaw 2
    clear hb hsz qR
    go_wp2_with fail
    (try simp only [Exit.inBlock, Exit.then])
    exact bodyPost_ret (results_ct (p := 2) (u := 3) rfl _ _ (g) 29 _ (0, 0) _ rfl HW.out Try.underlying29 rfl (by kernel_rfl)) rfl ⟨rfl, HE.out⟩
set_option maxRecDepth 100000 in
set_option maxHeartbeats 6400000 in
theorem of32_yes (s : Nat) (w : World) (hn : (Ieee.single.read s).isNaN = false) (hf : cnv s % 2 ^ 63 < 9218868437227405312) : Calls Try.prog 7 #[.float .f32 s] w fun e w' => RTEnd w (fR (cnv s)) e w' := by
  have hb := cnv_lt s
  have hcv : ∀ w, (convert 23 22 (.float .f32 s)).run Try.prog w = .ok (.float .f64 (cnv s)) w := fun w => run_convert_float_float _ _ _ _ _ _ _ (by kernel_rfl) Try.underlying22 (cnv_bits hn)
  clear hn
  generalize cnv s = b at *
  obtain ⟨u, k, hr, h1, h2, hk⟩ := parts_of hf
  obtain ⟨nb, hnb⟩ : ∃ s, s = (sgnb b && decide (b % 2 ^ 63 ≠ 0)) := ⟨_, rfl⟩
  have hlt := lt_nought hb (Nat.le_of_lt hf)
  rw [← hnb] at hlt
  have hz0 := fR_parts nb hr h1 h2 hnb
  have hnan : ∀ w, Calls Try.prog 16 #[.float .f64 b] w fun e w' => e = .returned (.bool false) ∧ w' = w := fun w => by have h := isNaN64 b w; rw [nan_word, decide_eq_false (Nat.not_lt_of_le (Nat.le_of_lt hf))] at h; exact h
  have hinf : ∀ w, Calls Try.prog 17 #[.float .f64 b, .int .i64 0] w fun e w' => e = .returned (.bool false) ∧ w' = w := fun w => by have h := isInf64 b w hb (Nat.le_of_lt hf); rw [decide_eq_false (Nat.ne_of_lt hf)] at h; exact h
  have habs := fun w => abs64 b w hb
  rw [hr] at habs
  have hpt := fun w => partsD u k w h1 h2 (by omega)
  obtain ⟨r, hr2⟩ : ∃ r, r = u + k * 2 ^ 52 := ⟨_, rfl⟩
  rw [← hr2] at habs hpt
  clear hr hr2
  obtain ⟨x, hx⟩ : ∃ x, x = -1074 + (k : Int) := ⟨_, rfl⟩
  rw [show 1074 - (k : Int) = -x by omega, ← hx] at hz0
  rw [← hx] at hpt
  have hx1 : -1074 ≤ x := by omega
  have hx2 : x ≤ 2000 := by omega
  have hng : IntKind.i64.wrap (-x) = -x := by rw [IntKind.wrap_i64]; omega
  have hu64 : u < 18446744073709551616 := by omega
  obtain ⟨Z, hZ⟩ : ∃ Z, Z = fR b := ⟨_, rfl⟩
  rw [← hZ] at hz0 ⊢
  have HZ : Hid (_ = _) := hz0
  clear hz0 hZ hx hnb h1 h2 hk
  have hu1 := raised_need u
  have HU : Hid (u < 18446744073709551616) := hu64
  have HX1 : Hid (-1074 ≤ x) := hx1
  have HX2 : Hid (x ≤ 2000) := hx2
  clear hu64 hx1 hx2
  obtain ⟨W1, hW1⟩ : ∃ W1, W1 = w.alloc (.cells #[.bool false, .slice none 0 0, .slice none 0 0] 29) := ⟨_, rfl⟩
  have qR : QCell W1 (w.heap.size) false (.slice none 0 0) (.slice none 0 0) := by rw [hW1]; exact (qcell_new _ (by simp))
  have hb : Below w.heap.size w W1 := by rw [hW1]; exact belowA w _
  have hsz : w.heap.size < W1.heap.size := by rw [hW1]; simp
  have HW1 : Hid (W1 = w.alloc (.cells #[.bool false, .slice none 0 0, .slice none 0 0] 29)) := hW1
  clear hW1
  go_enter Try.func7, Try.ntmps7
  go_wp2_with fail
  rw [← HW1.out]
  clear HW1
  obtain ⟨g, hg⟩ : ∃ g, g = w.heap.size := ⟨_, rfl⟩
  rw [← hg] at qR hsz ⊢
  have HG : Hid (g = w.heap.size) := hg
  clear hg
  refine (hnan _).mono ?_
  rintro e w2 ⟨rfl, rfl⟩
  obtain ⟨cqR0, cqR1, cqR2⟩ := qR.cells
  go_wp2_with fail
  clear cqR0 cqR1 cqR2
  refine (hinf _).mono ?_
  rintro e w3 ⟨rfl, rfl⟩
  obtain ⟨cqR0, cqR1, cqR2⟩ := qR.cells
  go_wp2_with fail
  clear cqR0 cqR1 cqR2
  clear hnan hinf
  refine (kindD _).mono ?_
  rintro e w4 ⟨rfl, b⟩
  replace qR := qR.below b
  replace hb := bstep hb b
  replace hsz := Nat.lt_of_lt_of_le hsz b.size
  clear b
  obtain ⟨cqR0, cqR1, cqR2⟩ := qR.cells
  go_wp2_with fail
  clear cqR0 cqR1 cqR2
  refine (habs _).mono ?_
  rintro e w5 ⟨rfl, rfl⟩
  obtain ⟨cqR0, cqR1, cqR2⟩ := qR.cells
  go_wp2_with fail
  clear cqR0 cqR1 cqR2
  refine (hpt _).mono ?_
  rintro e w6 ⟨rfl, b⟩
  replace qR := qR.below b
  replace hb := bstep hb b
  replace hsz := Nat.lt_of_lt_of_le hsz b.size
  clear b
  obtain ⟨cqR0, cqR1, cqR2⟩ := qR.cells
  go_wp2_with fail
  clear cqR0 cqR1 cqR2
  clear habs hpt
  refine (of_any u _ HU.out).mono ?_
  rintro e w7 ⟨v, rfl, ho, b⟩
  obtain ⟨uo, ul, uc, rfl⟩ := ho.sl
  have un := ho.num
  clear ho
  replace qR := qR.below b
  replace hb := bstep hb b
  replace hsz := Nat.lt_of_lt_of_le hsz b.size
  clear b
  replace un := un
  obtain ⟨cqR0, cqR1, cqR2⟩ := qR.cells
  go_wp2_with fail
  clear cqR0 cqR1 cqR2
  refine (raised_any _ _ x _ un (hu1 HU.out) (by have := HX2.out; omega) (by have := HX1.out; omega)).mono ?_
  rintro e w8 ⟨ro, rl, rc, zs, rfl, rn, rv, rz, b⟩
  replace un := un.below (Nat.le_refl _) b
  replace qR := qR.below b
  replace hb := bstep hb b
  replace hsz := Nat.lt_of_lt_of_le hsz b.size
  clear b
  clear un
  have hq0 : ICell (w8.alloc (.cells #[.bool false, .slice none 0 0] 27)) w8.heap.size false (.slice none 0 0) := icell_new _ rfl
  obtain ⟨W7, hW7⟩ : ∃ W, W = w8.alloc (.cells #[.bool nb, .slice ro rl rc] 27) := ⟨_, rfl⟩
  have qN : ICell W7 w8.heap.size nb (.slice ro rl rc) := by rw [hW7]; exact icell_new _ rfl
  have b : Below w8.heap.size w8 W7 := by rw [hW7]; exact belowA _ _
  obtain ⟨z0, z1⟩ := hq0.cells
  have t0 := hq0.thaw 0
  have t1 := hq0.thaw 1
  clear hq0
  have HW7 : Hid (W7 = w8.alloc (.cells #[.bool nb, .slice ro rl rc] 27)) := hW7
  clear hW7
  go_wp2_with fail
  rw [← HW7.out]
  clear z0 z1 t0 t1 HW7
  replace rn := rn.below (Nat.le_refl _) b
  replace qR := qR.below b
  replace hb := bstep hb b
  replace hsz := Nat.lt_of_lt_of_le hsz b.size
  clear b
  obtain ⟨v7, hv7⟩ : ∃ v, v = w8.heap.size := ⟨_, rfl⟩
  rw [← hv7] at qN ⊢
  clear hv7
  have iN : INum W7 (.agg #[.bool nb, .slice ro rl rc]) (zv nb (up u x)) := ⟨_, _, _, _, zs, rfl, rn, (by have := hu1 HU.out; omega), by rw [rv, val_lim]⟩
  clear rn rv rz
  have hu1b : (lim 1).length ≤ 100000 := raised_need 1 (by decide)
  refine region_late [(0, fun w' => w'.cell? ⟨v7, 0, none⟩ = some (.bool nb) ∧ w'.cell? ⟨v7, 1, none⟩ = some (.slice ro rl rc))] (by kernel_rfl) ?_
  have hHeld : AllL W7.drew [(0, fun w' => w'.cell? ⟨v7, 0, none⟩ = some (.bool nb) ∧ w'.cell? ⟨v7, 1, none⟩ = some (.slice ro rl rc))] := ⟨(show ICell W7.drew (v7) nb (.slice ro rl rc) from qN).cells, trivial⟩
  refine late_take 0 (v := .agg #[.bool nb, .slice ro rl rc]) rfl (by kernel_rfl) (List.Mem.head _) (by kernel_rfl) (by kernel_rfl) (by kernel_rfl) (by kernel_rfl) (fun _ _ _ h => h) (Or.inl ⟨by rfl, ?_⟩) hHeld ?_
  · (intro u hu; (try dsimp only at hu); go_split_ands; go_simp)
  (try simp only [Act.put, List.setIfInBounds_toArray, List.set_cons_zero, List.set_cons_succ])
  refine late_free 2 (v := .int .i64 x) rfl (by kernel_rfl) (by kernel_rfl) (by kernel_rfl) (by kernel_rfl) (by kernel_rfl) (by kernel_rfl) (fun _ _ _ h => h) (Or.inl ⟨by rfl, ?_⟩) hHeld ?_
  · (intro u _; go_simp)
  (try simp only [Act.put, List.setIfInBounds_toArray, List.set_cons_zero, List.set_cons_succ])
  refine late_free 3 (v := .int .i64 (-x)) rfl (by kernel_rfl) (by kernel_rfl) (by kernel_rfl) (by kernel_rfl) (by kernel_rfl) (by kernel_rfl) (fun _ _ _ h => h) (Or.inl ⟨by rfl, ?_⟩) hHeld ?_
  · (intro u _; go_simp)
  (try simp only [Act.put, List.setIfInBounds_toArray, List.set_cons_zero, List.set_cons_succ])
  refine late_step 1 (by kernel_rfl) rfl (fun K hK => ?_)
  go_simp
  refine (of_any 1 _ (by decide)).mono ?_
  rintro e w9 ⟨v, rfl, ho, b9⟩
  obtain ⟨so, sl, sc, rfl⟩ := ho.sl
  have sn := ho.num
  clear ho
  have B9 : Below W7.heap.size W7 w9 := bstep (below_drew' _) b9
  clear hHeld
  have hHeld : AllL w9 [(0, fun w' => w'.cell? ⟨v7, 0, none⟩ = some (.bool nb) ∧ w'.cell? ⟨v7, 1, none⟩ = some (.slice ro rl rc))] := ⟨(qN.below B9).cells, trivial⟩
  go_wp2_with fail
  refine hK.out _ _ (AllL.kept hHeld) ?_
  clear hK K
  (try simp only [Act.put, List.setIfInBounds_toArray, List.set_cons_zero, List.set_cons_succ])
  refine late_step 4 (by kernel_rfl) rfl (fun K hK => ?_)
  go_simp
  refine (raised_any _ _ (-x) _ sn (hu1b) (by have := HX1.out; omega) (by have := HX2.out; omega)).mono ?_
  rintro e w10 ⟨yo, yl, yc, ys, rfl, yn, yv, yz, b10⟩
  have iD : INum w10 (.agg #[.bool false, .slice yo yl yc]) ((up 1 (-x) : Nat) : Int) := ⟨_, _, _, _, ys, rfl, yn, (by have := hu1b; omega), by rw [yv, val_lim]; rfl⟩
  clear yn yv yz
  have B10 : Below W7.heap.size W7 w10 := bstep B9 b10
  clear hHeld
  have hHeld : AllL w10 [(0, fun w' => w'.cell? ⟨v7, 0, none⟩ = some (.bool nb) ∧ w'.cell? ⟨v7, 1, none⟩ = some (.slice ro rl rc))] := ⟨(qN.below B10).cells, trivial⟩
  go_wp2_with fail
  refine hK.out _ _ (AllL.kept hHeld) ?_
  clear hK K
  (try simp only [Act.put, List.setIfInBounds_toArray, List.set_cons_zero, List.set_cons_succ])
  refine late_free 5 (v := .agg #[.bool false, .slice yo yl yc]) rfl (by kernel_rfl) (by kernel_rfl) (by kernel_rfl) (by kernel_rfl) (by kernel_rfl) (by kernel_rfl) (fun _ _ _ h => h) (Or.inl ⟨by rfl, ?_⟩) hHeld ?_
  · (intro u _; go_simp)
  (try simp only [Act.put, List.setIfInBounds_toArray, List.set_cons_zero, List.set_cons_succ])
  refine late_step 6 (by kernel_rfl) rfl (fun K hK => ?_)
  go_simp
  have hq := c_new_yes (((iN.below (below_drew' _)).below b9).below b10) iD (up_one_ne _)
  rw [HZ.out] at hq
  refine hq.mono ?_
  rintro e w11 ⟨v, rfl, hv, b11⟩
  clear hq
  obtain ⟨m, d, rfl, hm, hd, hap⟩ := hv
  obtain ⟨mo, ml, mc, rfl⟩ := hm.sl
  obtain ⟨mO, mL, mC, rfl⟩ := hd.sl
  have B11 : Below W7.heap.size W7 w11 := bstep B10 b11
  clear hHeld
  have hHeld : AllL w11 [(0, fun w' => w'.cell? ⟨v7, 0, none⟩ = some (.bool nb) ∧ w'.cell? ⟨v7, 1, none⟩ = some (.slice ro rl rc))] := ⟨(qN.below B11).cells, trivial⟩
  go_wp2_with fail
  refine hK.out _ _ (AllL.kept hHeld) ?_
  clear hK K
  (try simp only [Act.put, List.setIfInBounds_toArray, List.set_cons_zero, List.set_cons_succ])
  refine late_free 7 (v := .agg #[.bool (decide (Z.num < 0)), .slice mo ml mc, .slice mO mL mC]) rfl (by kernel_rfl) (by kernel_rfl) (by kernel_rfl) (by kernel_rfl) (by kernel_rfl) (by kernel_rfl) (fun _ _ _ h => h) (Or.inl ⟨by rfl, ?_⟩) hHeld ?_
  · (intro u _; go_simp)
  (try simp only [Act.put, List.setIfInBounds_toArray, List.set_cons_zero, List.set_cons_succ])
  refine late_free 8 (v := .int .i64 0) rfl (by kernel_rfl) (by kernel_rfl) (by kernel_rfl) (by kernel_rfl) (by kernel_rfl) (by kernel_rfl) (fun _ _ _ h => h) (Or.inl ⟨by rfl, ?_⟩) hHeld ?_
  · (intro u _; go_simp)
  (try simp only [Act.put, List.setIfInBounds_toArray, List.set_cons_zero, List.set_cons_succ])
  have qq := qR.below B11
  have HE : Hid (REnd w Z (.returned (.agg #[.bool (decide (Z.num < 0)), .slice mo ml mc, .slice mO mL mC])) (((w11.setCell ⟨g, 0, none⟩ (.bool (decide (Z.num < 0)))).setCell ⟨g, 1, none⟩ (.slice mo ml mc)).setCell ⟨g, 2, none⟩ (.slice mO mL mC))) := rat_done rfl (by rw [HG.out]; omega) hm hd hap (Nat.lt_of_lt_of_le hsz B10.size) (bstep hb B11)
  have HW : Hid (QCell (((w11.setCell ⟨g, 0, none⟩ (.bool (decide (Z.num < 0)))).setCell ⟨g, 1, none⟩ (.slice mo ml mc)).setCell ⟨g, 2, none⟩ (.slice mO mL mC)) (g) (decide (Z.num < 0)) (.slice mo ml mc) (.slice mO mL mC)) := qq.write _ _ _
  obtain ⟨y0, y1, y2⟩ := qq.cells
  have f0 := qq.thaw 0
  have f1 := qq.thaw 1
  have f2 := qq.thaw 2
  generalize decide (Z.num < 0) = bb at *
  clear qq hap
  clear iD sn
  refine late_step 9 (by kernel_rfl) rfl (fun K hK => ?_)
  go_simp
  refine hK.out _ _ ⟨Or.inl ⟨6, by kernel_rfl, by kernel_rfl⟩, trivial⟩ ?_
  clear hK K
  (try simp only [Act.put, List.setIfInBounds_toArray, List.set_cons_zero, List.set_cons_succ])
  refine late_step 10 (by kernel_rfl) rfl (fun K hK => ?_)
  go_simp
  refine hK.out _ _ ⟨Or.inl ⟨6, by kernel_rfl, by kernel_rfl⟩, trivial⟩ ?_
  clear hK K
  (try simp only [Act.put, List.setIfInBounds_toArray, List.set_cons_zero, List.set_cons_succ])
  refine late_done (by kernel_rfl) ?_ _
  clear hHeld
  clear hb hsz hm hd qR qN iN b9 b10 b11 B9 B10 B11
  go_wp2_with fail
  (try simp only [Exit.inBlock, Exit.then])
  exact bodyPost_ret (results_ct (p := 2) (u := 3) rfl _ _ (g) 29 _ (0, 0) _ rfl HW.out Try.underlying29 rfl (by kernel_rfl)) rfl HE.out.t
set_option maxRecDepth 100000 in
set_option maxHeartbeats 6400000 in
theorem of32_inf (s : Nat) (w : World) (hn : (Ieee.single.read s).isNaN = false) (h : cnv s % 2 ^ 63 = 9218868437227405312) : Calls Try.prog 7 #[.float .f32 s] w fun e w' => RFl w e w' := by
  have hb := cnv_lt s
  have hcv : ∀ w, (convert 23 22 (.float .f32 s)).run Try.prog w = .ok (.float .f64 (cnv s)) w := fun w => run_convert_float_float _ _ _ _ _ _ _ (by kernel_rfl) Try.underlying22 (cnv_bits hn)
  clear hn
  generalize cnv s = b at *
  have hnan : ∀ w, Calls Try.prog 16 #[.float .f64 b] w fun e w' => e = .returned (.bool false) ∧ w' = w := fun w => by have h2 := isNaN64 b w; rw [nan_word, decide_eq_false (by omega)] at h2; exact h2
  have hinf : ∀ w, Calls Try.prog 17 #[.float .f64 b, .int .i64 0] w fun e w' => e = .returned (.bool true) ∧ w' = w := fun w => by have h2 := isInf64 b w hb (by omega); rw [decide_eq_true h] at h2; exact h2
  obtain ⟨W1, hW1⟩ : ∃ W1, W1 = w.alloc (.cells #[.bool false, .slice none 0 0, .slice none 0 0] 29) := ⟨_, rfl⟩
  have qR : QCell W1 (w.heap.size) false (.slice none 0 0) (.slice none 0 0) := by rw [hW1]; exact (qcell_new _ (by simp))
  have hb : Below w.heap.size w W1 := by rw [hW1]; exact belowA w _
  have hsz : w.heap.size < W1.heap.size := by rw [hW1]; simp
  have HW1 : Hid (W1 = w.alloc (.cells #[.bool false, .slice none 0 0, .slice none 0 0] 29)) := hW1
  clear hW1
  go_enter Try.func7, Try.ntmps7
  go_wp2_with fail
  rw [← HW1.out]
  clear HW1
  obtain ⟨g, hg⟩ : ∃ g, g = w.heap.size := ⟨_, rfl⟩
  rw [← hg] at qR hsz ⊢
  have HG : Hid (g = w.heap.size) := hg
  clear hg
  refine (hnan _).mono ?_
  rintro e w2 ⟨rfl, rfl⟩
  obtain ⟨cqR0, cqR1, cqR2⟩ := qR.cells
  go_wp2_with fail
  clear cqR0 cqR1 cqR2
  refine (hinf _).mono ?_
  rintro e w3 ⟨rfl, rfl⟩
  clear hinf
  clear hnan
  have HE : Hid (Below w.heap.size w (((w3.setCell ⟨g, 0, none⟩ (.bool false)).setCell ⟨g, 1, none⟩ (.slice none 0 0)).setCell ⟨g, 2, none⟩ (.slice none 0 0))) := iend3 hb (by rw [HG.out]; omega)
  have HW : Hid (QCell (((w3.setCell ⟨g, 0, none⟩ (.bool false)).setCell ⟨g, 1, none⟩ (.slice none 0 0)).setCell ⟨g, 2, none⟩ (.slice none 0 0)) (g) false (.slice none 0 0) (.slice none 0 0)) := qR.write _ _ _
  obtain ⟨y0, y1, y2⟩ := qR.cells
  have f0 := qR.thaw 0
  have f1 := qR.thaw 1
  have f2 := qR.thaw 2
  clear hb hsz qR
  go_wp2_with fail
  (try simp only [Exit.inBlock, Exit.then])
  exact bodyPost_ret (results_ct (p := 2) (u := 3) rfl _ _ (g) 29 _ (0, 0) _ rfl HW.out Try.underlying29 rfl (by kernel_rfl)) rfl ⟨rfl, HE.out⟩
set_option maxRecDepth 100000 in
set_option maxHeartbeats 6400000 in
theorem of32_nan (s : Nat) (w : World) (hn : (Ieee.single.read s).isNaN = true) : Calls Try.prog 7 #[.float .f32 s] w fun e w' => RFl w e w' := by
  have hcv : ∀ w, (convert 23 22 (.float .f32 s)).run Try.prog w = .ok (.float .f64 (nanC s w)) w.drew := fun w => run_conv_nan _ _ _ (by kernel_rfl) hn
  obtain ⟨W1, hW1⟩ : ∃ W1, W1 = w.alloc (.cells #[.bool false, .slice none 0 0, .slice none 0 0] 29) := ⟨_, rfl⟩
  have qR : QCell W1 (w.heap.size) false (.slice none 0 0) (.slice none 0 0) := by rw [hW1]; exact (qcell_new _ (by simp))
  have hb : Below w.heap.size w W1 := by rw [hW1]; exact belowA w _
  have hsz : w.heap.size < W1.heap.size := by rw [hW1]; simp
  have HW1 : Hid (W1 = w.alloc (.cells #[.bool false, .slice none 0 0, .slice none 0 0] 29)) := hW1
  clear hW1
  go_enter Try.func7, Try.ntmps7
  go_wp2_with fail
  rw [← HW1.out]
  clear HW1
  obtain ⟨g, hg⟩ : ∃ g, g = w.heap.size := ⟨_, rfl⟩
  rw [← hg] at qR hsz ⊢
  have HG : Hid (g = w.heap.size) := hg
  clear hg
  have b : Below W1.heap.size W1 W1.drew := (Below.refl _ _).drew
  have hnan : ∀ w, Calls Try.prog 16 #[.float .f64 (nanC s W1)] w fun e w' => e = .returned (.bool true) ∧ w' = w := fun w => by have h := isNaN64 (nanC s W1) w; rw [nanC_nan] at h; exact h
  generalize nanC s W1 = nn at *
  replace qR := qR.below b
  replace hb := bstep hb b
  replace hsz := Nat.lt_of_lt_of_le hsz b.size
  clear b
  generalize W1.drew = w1 at *
  refine (hnan _).mono ?_
  rintro e w2 ⟨rfl, rfl⟩
  clear hnan
  have HE : Hid (Below w.heap.size w (((w2.setCell ⟨g, 0, none⟩ (.bool false)).setCell ⟨g, 1, none⟩ (.slice none 0 0)).setCell ⟨g, 2, none⟩ (.slice none 0 0))) := iend3 hb (by rw [HG.out]; omega)
  have HW : Hid (QCell (((w2.setCell ⟨g, 0, none⟩ (.bool false)).setCell ⟨g, 1, none⟩ (.slice none 0 0)).setCell ⟨g, 2, none⟩ (.slice none 0 0)) (g) false (.slice none 0 0) (.slice none 0 0)) := qR.write _ _ _
  obtain ⟨y0, y1, y2⟩ := qR.cells
  have f0 := qR.thaw 0
  have f1 := qR.thaw 1
  have f2 := qR.thaw 2
  clear hb hsz qR
  go_wp2_with fail
  (try simp only [Exit.inBlock, Exit.then])
  exact bodyPost_ret (results_ct (p := 2) (u := 3) rfl _ _ (g) 29 _ (0, 0) _ rfl HW.out Try.underlying29 rfl (by kernel_rfl)) rfl ⟨rfl, HE.out⟩
set_option maxRecDepth 100000 in
set_option maxHeartbeats 6400000 in
theorem ofH_yes (s : Nat) (w : World) (hn : (Ieee.single.read s).isNaN = false) (hf : cnv s % 2 ^ 63 < 9218868437227405312) : Calls Try.prog 8 #[.float .f32 s] w fun e w' => RTEnd w (fR (cnv s)) e w' := by
  have hb := cnv_lt s
  have hcv : ∀ w, (convert 37 22 (.float .f32 s)).run Try.prog w = .ok (.float .f64 (cnv s)) w := fun w => run_convert_float_float _ _ _ _ _ _ _ (by kernel_rfl) Try.underlying22 (cnv_bits hn)
  clear hn
  generalize cnv s = b at *
  obtain ⟨u, k, hr, h1, h2, hk⟩ := parts_of hf
  obtain ⟨nb, hnb⟩ : ∃ s, s = (sgnb b && decide (b % 2 ^ 63 ≠ 0)) := ⟨_, rfl⟩
  have hlt := lt_nought hb (Nat.le_of_lt hf)
  rw [← hnb] at hlt
  have hz0 := fR_parts nb hr h1 h2 hnb
  have hnan : ∀ w, Calls Try.prog 16 #[.float .f64 b] w fun e w' => e = .returned (.bool false) ∧ w' = w := fun w => by have h := isNaN64 b w; rw [nan_word, decide_eq_false (Nat.not_lt_of_le (Nat.le_of_lt hf))] at h; exact h
  have hinf : ∀ w, Calls Try.prog 17 #[.float .f64 b, .int .i64 0] w fun e w' => e = .returned (.bool false) ∧ w' = w := fun w => by have h := isInf64 b w hb (Nat.le_of_lt hf); rw [decide_eq_false (Nat.ne_of_lt hf)] at h; exact h
  have habs := fun w => abs64 b w hb
  rw [hr] at habs
  have hpt := fun w => partsD u k w h1 h2 (by omega)
  obtain ⟨r, hr2⟩ : ∃ r, r = u + k * 2 ^ 52 := ⟨_, rfl⟩
  rw [← hr2] at habs hpt
  clear hr hr2
  obtain ⟨x, hx⟩ : ∃ x, x = -1074 + (k : Int) := ⟨_, rfl⟩
  rw [show 1074 - (k : Int) = -x by omega, ← hx] at hz0
  rw [← hx] at hpt
  have hx1 : -1074 ≤ x := by omega
  have hx2 : x ≤ 2000 := by omega
  have hng : IntKind.i64.wrap (-x) = -x := by rw [IntKind.wrap_i64]; omega
  have hu64 : u < 18446744073709551616 := by omega
  obtain ⟨Z, hZ⟩ : ∃ Z, Z = fR b := ⟨_, rfl⟩
  rw [← hZ] at hz0 ⊢
  have HZ : Hid (_ = _) := hz0
  clear hz0 hZ hx hnb h1 h2 hk
  have hu1 := raised_need u
  have HU : Hid (u < 18446744073709551616) := hu64
  have HX1 : Hid (-1074 ≤ x) := hx1
  have HX2 : Hid (x ≤ 2000) := hx2
  clear hu64 hx1 hx2
  obtain ⟨W1, hW1⟩ : ∃ W1, W1 = w.alloc (.cells #[.bool false, .slice none 0 0, .slice none 0 0] 29) := ⟨_, rfl⟩
  have qR : QCell W1 (w.heap.size) false (.slice none 0 0) (.slice none 0 0) := by rw [hW1]; exact (qcell_new _ (by simp))
  have hb : Below w.heap.size w W1 := by rw [hW1]; exact belowA w _
  have hsz : w.heap.size < W1.heap.size := by rw [hW1]; simp
  have HW1 : Hid (W1 = w.alloc (.cells #[.bool false, .slice none 0 0, .slice none 0 0] 29)) := hW1
  clear hW1
  go_enter Try.func8, Try.ntmps8
  go_wp2_with fail
  rw [← HW1.out]
  clear HW1
  obtain ⟨g, hg⟩ : ∃ g, g = w.heap.size := ⟨_, rfl⟩
  rw [← hg] at qR hsz ⊢
  have HG : Hid (g = w.heap.size) := hg
  clear hg
  refine (hnan _).mono ?_
  rintro e w2 ⟨rfl, rfl⟩
  obtain ⟨cqR0, cqR1, cqR2⟩ := qR.cells
  go_wp2_with fail
  clear cqR0 cqR1 cqR2
  refine (hinf _).mono ?_
  rintro e w3 ⟨rfl, rfl⟩
  obtain ⟨cqR0, cqR1, cqR2⟩ := qR.cells
  go_wp2_with fail
  clear cqR0 cqR1 cqR2
  clear hnan hinf
  refine (kindD _).mono ?_
  rintro e w4 ⟨rfl, b⟩
  replace qR := qR.below b
  replace hb := bstep hb b
  replace hsz := Nat.lt_of_lt_of_le hsz b.size
  clear b
  obtain ⟨cqR0, cqR1, cqR2⟩ := qR.cells
  go_wp2_with fail
  clear cqR0 cqR1 cqR2
  refine (habs _).mono ?_
  rintro e w5 ⟨rfl, rfl⟩
  obtain ⟨cqR0, cqR1, cqR2⟩ := qR.cells
  go_wp2_with fail
  clear cqR0 cqR1 cqR2
  refine (hpt _).mono ?_
  rintro e w6 ⟨rfl, b⟩
  replace qR := qR.below b
  replace hb := bstep hb b
  replace hsz := Nat.lt_of_lt_of_le hsz b.size
  clear b
  obtain ⟨cqR0, cqR1, cqR2⟩ := qR.cells
  go_wp2_with fail
  clear cqR0 cqR1 cqR2
  clear habs hpt
  refine (of_any u _ HU.out).mono ?_
  rintro e w7 ⟨v, rfl, ho, b⟩
  obtain ⟨uo, ul, uc, rfl⟩ := ho.sl
  have un := ho.num
  clear ho
  replace qR := qR.below b
  replace hb := bstep hb b
  replace hsz := Nat.lt_of_lt_of_le hsz b.size
  clear b
  replace un := un
  obtain ⟨cqR0, cqR1, cqR2⟩ := qR.cells
  go_wp2_with fail
  clear cqR0 cqR1 cqR2
  refine (raised_any _ _ x _ un (hu1 HU.out) (by have := HX2.out; omega) (by have := HX1.out; omega)).mono ?_
  rintro e w8 ⟨ro, rl, rc, zs, rfl, rn, rv, rz, b⟩
  replace un := un.below (Nat.le_refl _) b
  replace qR := qR.below b
  replace hb := bstep hb b
  replace hsz := Nat.lt_of_lt_of_le hsz b.size
  clear b
  clear un
  have hq0 : ICell (w8.alloc (.cells #[.bool false, .slice none 0 0] 27)) w8.heap.size false (.slice none 0 0) := icell_new _ rfl
  obtain ⟨W7, hW7⟩ : ∃ W, W = w8.alloc (.cells #[.bool nb, .slice ro rl rc] 27) := ⟨_, rfl⟩
  have qN : ICell W7 w8.heap.size nb (.slice ro rl rc) := by rw [hW7]; exact icell_new _ rfl
  have b : Below w8.heap.size w8 W7 := by rw [hW7]; exact belowA _ _
  obtain ⟨z0, z1⟩ := hq0.cells
  have t0 := hq0.thaw 0
  have t1 := hq0.thaw 1
  clear hq0
  have HW7 : Hid (W7 = w8.alloc (.cells #[.bool nb, .slice ro rl rc] 27)) := hW7
  clear hW7
  go_wp2_with fail
  rw [← HW7.out]
  clear z0 z1 t0 t1 HW7
  replace rn := rn.below (Nat.le_refl _) b
  replace qR := qR.below b
  replace hb := bstep hb b
  replace hsz := Nat.lt_of_lt_of_le hsz b.size
  clear b
  obtain ⟨v7, hv7⟩ : ∃ v, v = w8.heap.size := ⟨_, rfl⟩
  rw [← hv7] at qN ⊢
  clear hv7
  have iN : INum W7 (.agg #[.bool nb, .slice ro rl rc]) (zv nb (up u x)) := ⟨_, _, _, _, zs, rfl, rn, (by have := hu1 HU.out; omega), by rw [rv, val_lim]⟩
  clear rn rv rz
  have hu1b : (lim 1).length ≤ 100000 := raised_need 1 (by decide)
  refine region_late [(0, fun w' => w'.cell? ⟨v7, 0, none⟩ = some (.bool nb) ∧ w'.cell? ⟨v7, 1, none⟩ = some (.slice ro rl rc))] (by kernel_rfl) ?_
  have hHeld : AllL W7.drew [(0, fun w' => w'.cell? ⟨v7, 0, none⟩ = some (.bool nb) ∧ w'.cell? ⟨v7, 1, none⟩ = some (.slice ro rl rc))] := ⟨(show ICell W7.drew (v7) nb (.slice ro rl rc) from qN).cells, trivial⟩
  refine late_take 0 (v := .agg #[.bool nb, .slice ro rl rc]) rfl (by kernel_rfl) (List.Mem.head _) (by kernel_rfl) (by kernel_rfl) (by kernel_rfl) (by kernel_rfl) (fun _ _ _ h => h) (Or.inl ⟨by rfl, ?_⟩) hHeld ?_
  · (intro u hu; (try dsimp only at hu); go_split_ands; go_simp)
  (try simp only [Act.put, List.setIfInBounds_toArray, List.set_cons_zero, List.set_cons_succ])
  refine late_free 2 (v := .int .i64 x) rfl (by kernel_rfl) (by kernel_rfl) (by kernel_rfl) (by kernel_rfl) (by kernel_rfl) (by kernel_rfl) (fun _ _ _ h => h) (Or.inl ⟨by rfl, ?_⟩) hHeld ?_
  · (intro u _; go_simp)
  (try simp only [Act.put, List.setIfInBounds_toArray, List.set_cons_zero, List.set_cons_succ])
  refine late_free 3 (v := .int .i64 (-x)) rfl (by kernel_rfl) (by kernel_rfl) (by kernel_rfl) (by kernel_rfl) (by kernel_rfl) (by kernel_rfl) (fun _ _ _ h => h) (Or.inl ⟨by rfl, ?_⟩) hHeld ?_
  · (intro u _; go_simp)
  (try simp only [Act.put, List.setIfInBounds_toArray, List.set_cons_zero, List.set_cons_succ])
  refine late_step 1 (by kernel_rfl) rfl (fun K hK => ?_)
  go_simp
  refine (of_any 1 _ (by decide)).mono ?_
  rintro e w9 ⟨v, rfl, ho, b9⟩
  obtain ⟨so, sl, sc, rfl⟩ := ho.sl
  have sn := ho.num
  clear ho
  have B9 : Below W7.heap.size W7 w9 := bstep (below_drew' _) b9
  clear hHeld
  have hHeld : AllL w9 [(0, fun w' => w'.cell? ⟨v7, 0, none⟩ = some (.bool nb) ∧ w'.cell? ⟨v7, 1, none⟩ = some (.slice ro rl rc))] := ⟨(qN.below B9).cells, trivial⟩
  go_wp2_with fail
  refine hK.out _ _ (AllL.kept hHeld) ?_
  clear hK K
  (try simp only [Act.put, List.setIfInBounds_toArray, List.set_cons_zero, List.set_cons_succ])
  refine late_step 4 (by kernel_rfl) rfl (fun K hK => ?_)
  go_simp
  refine (raised_any _ _ (-x) _ sn (hu1b) (by have := HX1.out; omega) (by have := HX2.out; omega)).mono ?_
  rintro e w10 ⟨yo, yl, yc, ys, rfl, yn, yv, yz, b10⟩
  have iD : INum w10 (.agg #[.bool false, .slice yo yl yc]) ((up 1 (-x) : Nat) : Int) := ⟨_, _, _, _, ys, rfl, yn, (by have := hu1b; omega), by rw [yv, val_lim]; rfl⟩
  clear yn yv yz
  have B10 : Below W7.heap.size W7 w10 := bstep B9 b10
  clear hHeld
  have hHeld : AllL w10 [(0, fun w' => w'.cell? ⟨v7, 0, none⟩ = some (.bool nb) ∧ w'.cell? ⟨v7, 1, none⟩ = some (.slice ro rl rc))] := ⟨(qN.below B10).cells, trivial⟩
  go_wp2_with fail
  refine hK.out _ _ (AllL.kept hHeld) ?_
  clear hK K
  (try simp only [Act.put, List.setIfInBounds_toArray, List.set_cons_zero, List.set_cons_succ])
  refine late_free 5 (v := .agg #[.bool false, .slice yo yl yc]) rfl (by kernel_rfl) (by kernel_rfl) (by kernel_rfl) (by kernel_rfl) (by kernel_rfl) (by kernel_rfl) (fun _ _ _ h => h) (Or.inl ⟨by rfl, ?_⟩) hHeld ?_
  · (intro u _; go_simp)
  (try simp only [Act.put, List.setIfInBounds_toArray, List.set_cons_zero, List.set_cons_succ])
  refine late_step 6 (by kernel_rfl) rfl (fun K hK => ?_)
  go_simp
  have hq := c_new_yes (((iN.below (below_drew' _)).below b9).below b10) iD (up_one_ne _)
  rw [HZ.out] at hq
  refine hq.mono ?_
  rintro e w11 ⟨v, rfl, hv, b11⟩
  clear hq
  obtain ⟨m, d, rfl, hm, hd, hap⟩ := hv
  obtain ⟨mo, ml, mc, rfl⟩ := hm.sl
  obtain ⟨mO, mL, mC, rfl⟩ := hd.sl
  have B11 : Below W7.heap.size W7 w11 := bstep B10 b11
  clear hHeld
  have hHeld : AllL w11 [(0, fun w' => w'.cell? ⟨v7, 0, none⟩ = some (.bool nb) ∧ w'.cell? ⟨v7, 1, none⟩ = some (.slice ro rl rc))] := ⟨(qN.below B11).cells, trivial⟩
  go_wp2_with fail
  refine hK.out _ _ (AllL.kept hHeld) ?_
  clear hK K
  (try simp only [Act.put, List.setIfInBounds_toArray, List.set_cons_zero, List.set_cons_succ])
  refine late_free 7 (v := .agg #[.bool (decide (Z.num < 0)), .slice mo ml mc, .slice mO mL mC]) rfl (by kernel_rfl) (by kernel_rfl) (by kernel_rfl) (by kernel_rfl) (by kernel_rfl) (by kernel_rfl) (fun _ _ _ h => h) (Or.inl ⟨by rfl, ?_⟩) hHeld ?_
  · (intro u _; go_simp)
  (try simp only [Act.put, List.setIfInBounds_toArray, List.set_cons_zero, List.set_cons_succ])
  refine late_free 8 (v := .int .i64 0) rfl (by kernel_rfl) (by kernel_rfl) (by kernel_rfl) (by kernel_rfl) (by kernel_rfl) (by kernel_rfl) (fun _ _ _ h => h) (Or.inl ⟨by rfl, ?_⟩) hHeld ?_
  · (intro u _; go_simp)
  (try simp only [Act.put, List.setIfInBounds_toArray, List.set_cons_zero, List.set_cons_succ])
  have qq := qR.below B11
  have HE : Hid (REnd w Z (.returned (.agg #[.bool (decide (Z.num < 0)), .slice mo ml mc, .slice mO mL mC])) (((w11.setCell ⟨g, 0, none⟩ (.bool (decide (Z.num < 0)))).setCell ⟨g, 1, none⟩ (.slice mo ml mc)).setCell ⟨g, 2, none⟩ (.slice mO mL mC))) := rat_done rfl (by rw [HG.out]; omega) hm hd hap (Nat.lt_of_lt_of_le hsz B10.size) (bstep hb B11)
  have HW : Hid (QCell (((w11.setCell ⟨g, 0, none⟩ (.bool (decide (Z.num < 0)))).setCell ⟨g, 1, none⟩ (.slice mo ml mc)).setCell ⟨g, 2, none⟩ (.slice mO mL mC)) (g) (decide (Z.num < 0)) (.slice mo ml mc) (.slice mO mL mC)) := qq.write _ _ _
  obtain ⟨y0, y1, y2⟩ := qq.cells
  have f0 := qq.thaw 0
  have f1 := qq.thaw 1
  have f2 := qq.thaw 2
  generalize decide (Z.num < 0) = bb at *
  clear qq hap
  clear iD sn
  refine late_step 9 (by kernel_rfl) rfl (fun K hK => ?_)
  go_simp
  refine hK.out _ _ ⟨Or.inl ⟨6, by kernel_rfl, by kernel_rfl⟩, trivial⟩ ?_
  clear hK K
  (try simp only [Act.put, List.setIfInBounds_toArray, List.set_cons_zero, List.set_cons_succ])
  refine late_step 10 (by kernel_rfl) rfl (fun K hK => ?_)
  go_simp
  refine hK.out _ _ ⟨Or.inl ⟨6, by kernel_rfl, by kernel_rfl⟩, trivial⟩ ?_
  clear hK K
  (try simp only [Act.put, List.setIfInBounds_toArray, List.set_cons_zero, List.set_cons_succ])
  refine late_done (by kernel_rfl) ?_ _
  clear hHeld
  clear hb hsz hm hd qR qN iN b9 b10 b11 B9 B10 B11
  go_wp2_with fail
  (try simp only [Exit.inBlock, Exit.then])
  exact bodyPost_ret (results_ct (p := 2) (u := 3) rfl _ _ (g) 29 _ (0, 0) _ rfl HW.out Try.underlying29 rfl (by kernel_rfl)) rfl HE.out.t
set_option maxRecDepth 100000 in
set_option maxHeartbeats 6400000 in
theorem ofH_inf (s : Nat) (w : World) (hn : (Ieee.single.read s).isNaN = false) (h : cnv s % 2 ^ 63 = 9218868437227405312) : Calls Try.prog 8 #[.float .f32 s] w fun e w' => RFl w e w' := by
  have hb := cnv_lt s
  have hcv : ∀ w, (convert 37 22 (.float .f32 s)).run Try.prog w = .ok (.float .f64 (cnv s)) w := fun w => run_convert_float_float _ _ _ _ _ _ _ (by kernel_rfl) Try.underlying22 (cnv_bits hn)
  clear hn
  generalize cnv s = b at *
  have hnan : ∀ w, Calls Try.prog 16 #[.float .f64 b] w fun e w' => e = .returned (.bool false) ∧ w' = w := fun w => by have h2 := isNaN64 b w; rw [nan_word, decide_eq_false (by omega)] at h2; exact h2
  have hinf : ∀ w, Calls Try.prog 17 #[.float .f64 b, .int .i64 0] w fun e w' => e = .returned (.bool true) ∧ w' = w := fun w => by have h2 := isInf64 b w hb (by omega); rw [decide_eq_true h] at h2; exact h2
  obtain ⟨W1, hW1⟩ : ∃ W1, W1 = w.alloc (.cells #[.bool false, .slice none 0 0, .slice none 0 0] 29) := ⟨_, rfl⟩
  have qR : QCell W1 (w.heap.size) false (.slice none 0 0) (.slice none 0 0) := by rw [hW1]; exact (qcell_new _ (by simp))
  have hb : Below w.heap.size w W1 := by rw [hW1]; exact belowA w _
  have hsz : w.heap.size < W1.heap.size := by rw [hW1]; simp
  have HW1 : Hid (W1 = w.alloc (.cells #[.bool false, .slice none 0 0, .slice none 0 0] 29)) := hW1
  clear hW1
  go_enter Try.func8, Try.ntmps8
  go_wp2_with fail
  rw [← HW1.out]
  clear HW1
  obtain ⟨g, hg⟩ : ∃ g, g = w.heap.size := ⟨_, rfl⟩
  rw [← hg] at qR hsz ⊢
  have HG : Hid (g = w.heap.size) := hg
  clear hg
  refine (hnan _).mono ?_
  rintro e w2 ⟨rfl, rfl⟩
  obtain ⟨cqR0, cqR1, cqR2⟩ := qR.cells
  go_wp2_with fail
  clear cqR0 cqR1 cqR2
  refine (hinf _).mono ?_
  rintro e w3 ⟨rfl, rfl⟩
  clear hinf
  clear hnan
  have HE : Hid (Below w.heap.size w (((w3.setCell ⟨g, 0, none⟩ (.bool false)).setCell ⟨g, 1, none⟩ (.slice none 0 0)).setCell ⟨g, 2, none⟩ (.slice none 0 0))) := iend3 hb (by rw [HG.out]; omega)
  have HW : Hid (QCell (((w3.setCell ⟨g, 0, none⟩ (.bool false)).setCell ⟨g, 1, none⟩ (.slice none 0 0)).setCell ⟨g, 2, none⟩ (.slice none 0 0)) (g) false (.slice none 0 0) (.slice none 0 0)) := qR.write _ _ _
  obtain ⟨y0, y1, y2⟩ := qR.cells
  have f0 := qR.thaw 0
  have f1 := qR.thaw 1
  have f2 := qR.thaw 2
  clear hb hsz qR
  go_wp2_with fail
  (try simp only [Exit.inBlock, Exit.then])
  exact bodyPost_ret (results_ct (p := 2) (u := 3) rfl _ _ (g) 29 _ (0, 0) _ rfl HW.out Try.underlying29 rfl (by kernel_rfl)) rfl ⟨rfl, HE.out⟩
set_option maxRecDepth 100000 in
set_option maxHeartbeats 6400000 in
theorem ofH_nan (s : Nat) (w : World) (hn : (Ieee.single.read s).isNaN = true) : Calls Try.prog 8 #[.float .f32 s] w fun e w' => RFl w e w' := by
  have hcv : ∀ w, (convert 37 22 (.float .f32 s)).run Try.prog w = .ok (.float .f64 (nanC s w)) w.drew := fun w => run_conv_nan _ _ _ (by kernel_rfl) hn
  obtain ⟨W1, hW1⟩ : ∃ W1, W1 = w.alloc (.cells #[.bool false, .slice none 0 0, .slice none 0 0] 29) := ⟨_, rfl⟩
  have qR : QCell W1 (w.heap.size) false (.slice none 0 0) (.slice none 0 0) := by rw [hW1]; exact (qcell_new _ (by simp))
  have hb : Below w.heap.size w W1 := by rw [hW1]; exact belowA w _
  have hsz : w.heap.size < W1.heap.size := by rw [hW1]; simp
  have HW1 : Hid (W1 = w.alloc (.cells #[.bool false, .slice none 0 0, .slice none 0 0] 29)) := hW1
  clear hW1
  go_enter Try.func8, Try.ntmps8
  go_wp2_with fail
  rw [← HW1.out]
  clear HW1
  obtain ⟨g, hg⟩ : ∃ g, g = w.heap.size := ⟨_, rfl⟩
  rw [← hg] at qR hsz ⊢
  have HG : Hid (g = w.heap.size) := hg
  clear hg
  have b : Below W1.heap.size W1 W1.drew := (Below.refl _ _).drew
  have hnan : ∀ w, Calls Try.prog 16 #[.float .f64 (nanC s W1)] w fun e w' => e = .returned (.bool true) ∧ w' = w := fun w => by have h := isNaN64 (nanC s W1) w; rw [nanC_nan] at h; exact h
  generalize nanC s W1 = nn at *
  replace qR := qR.below b
  replace hb := bstep hb b
  replace hsz := Nat.lt_of_lt_of_le hsz b.size
  clear b
  generalize W1.drew = w1 at *
  refine (hnan _).mono ?_
  rintro e w2 ⟨rfl, rfl⟩
  clear hnan
  have HE : Hid (Below w.heap.size w (((w2.setCell ⟨g, 0, none⟩ (.bool false)).setCell ⟨g, 1, none⟩ (.slice none 0 0)).setCell ⟨g, 2, none⟩ (.slice none 0 0))) := iend3 hb (by rw [HG.out]; omega)
  have HW : Hid (QCell (((w2.setCell ⟨g, 0, none⟩ (.bool false)).setCell ⟨g, 1, none⟩ (.slice none 0 0)).setCell ⟨g, 2, none⟩ (.slice none 0 0)) (g) false (.slice none 0 0) (.slice none 0 0)) := qR.write _ _ _
  obtain ⟨y0, y1, y2⟩ := qR.cells
  have f0 := qR.thaw 0
  have f1 := qR.thaw 1
  have f2 := qR.thaw 2
  clear hb hsz qR
  go_wp2_with fail
  (try simp only [Exit.inBlock, Exit.then])
  exact bodyPost_ret (results_ct (p := 2) (u := 3) rfl _ _ (g) 29 _ (0, 0) _ rfl HW.out Try.underlying29 rfl (by kernel_rfl)) rfl ⟨rfl, HE.out⟩
end Go.Proofs.Ytaekaikkldnikaa
