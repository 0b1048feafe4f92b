/-
  Proved here: what Norm, Neg, Add, Sub, Sign, Cmp, Of, Int and Text of the plain way over whole numbers answer.
-/
import Derived.Test.YtaafijifiiiblaaGreatRefOfAll
import Derived.Test.YtaafijifiiiblaaGreatAllAll
namespace Go.Proofs.YtaafijifiiiblaaGreat
open Go.RowKit

theorem lim_le {n : Nat} {xs : List Nat} {w : World} {v : Value} (h : Num w v xs) (hn : n ≤ val xs) : (lim n).length ≤ xs.length := lim_len_le (Nat.lt_of_le_of_lt hn (val_lt h.1))
set_option maxRecDepth 100000 in
set_option maxHeartbeats 6400000 in
theorem r_norm {a : Value} {x : Int} {w : World} (ha : INum w a x) : Calls Tryz.prog 104 #[a] w fun e w' => IEnd w (x) e w' := by
  obtain ⟨na, ao, al, ac, xa, rfl, ua, la, za⟩ := ha
  have ha : INum w (.agg #[.bool na, .slice ao al ac]) x := ⟨_, _, _, _, _, rfl, ua, la, za⟩
  obtain ⟨W1, hW1⟩ : ∃ W1, W1 = (w.alloc (.cells #[.bool na, .slice ao al ac] 25)).alloc (.cells #[.bool false, .slice none 0 0] 25) := ⟨_, rfl⟩
  have qa : ICell W1 (w.heap.size) na (.slice ao al ac) := by rw [hW1]; exact (icell_step (icell_new _ (by simp)))
  have qR : ICell W1 (w.heap.size + 1) false (.slice none 0 0) := by rw [hW1]; exact (icell_new _ (by simp))
  have hb : Below w.heap.size w W1 := by rw [hW1]; exact bstep (belowA w _) (belowA _ _)
  have hsz : w.heap.size + 1 < W1.heap.size := by rw [hW1]; simp
  replace ua := ua.below (Nat.le_refl _) hb
  have HW1 : Hid (W1 = (w.alloc (.cells #[.bool na, .slice ao al ac] 25)).alloc (.cells #[.bool false, .slice none 0 0] 25)) := hW1
  clear hW1
  go_enter Tryz.func104, Tryz.ntmps104
  go_wp2_with fail
  rw [← HW1.out]
  clear HW1
  obtain ⟨g, hg⟩ : ∃ g, g = w.heap.size := ⟨_, rfl⟩
  rw [← hg] at qa qR hsz ⊢
  have HG : Hid (g = w.heap.size) := hg
  clear hg
  have hmk := make_ref na _ _ _ ua (by omega)
  rw [za] at hmk
  refine (hmk).mono ?_
  rintro e w2 ⟨v, rfl, ⟨m, rfl, hm⟩, b⟩
  clear hmk
  obtain ⟨mo, ml, mc, rfl⟩ := hm.sl
  have hszz := hsz
  replace ua := ua.below (Nat.le_refl _) b
  replace qa := qa.below b
  replace qR := qR.below b
  replace hb := bstep hb b
  replace hsz := Nat.lt_of_lt_of_le hsz b.size
  clear b
  have HE : Hid (IEnd w (x) (.returned (.agg #[.bool (decide (x < 0)), .slice mo ml mc])) ((w2.setCell ⟨g + 1, 0, none⟩ (.bool (decide (x < 0)))).setCell ⟨g + 1, 1, none⟩ (.slice mo ml mc))) := (int_done rfl (by rw [HG.out]; omega) hm hszz hb).i
  have HW : Hid (ICell ((w2.setCell ⟨g + 1, 0, none⟩ (.bool (decide (x < 0)))).setCell ⟨g + 1, 1, none⟩ (.slice mo ml mc)) (g + 1) (decide (x < 0)) (.slice mo ml mc)) := qR.write _ _
  obtain ⟨y0, y1⟩ := qR.cells
  have f0 := qR.thaw 0
  have f1 := qR.thaw 1
  generalize decide (x < 0) = bb at *
  clear hszz ha za la
  clear hb hsz hm qa qR ua
  go_wp2_with fail
  (try simp only [Exit.inBlock, Exit.then])
  exact bodyPost_ret (results_cell_row rfl _ _ (g + 1) 25 _ (0, 0) _ rfl HW.out Tryz.underlying25 rfl (by kernel_rfl)) rfl HE.out
set_option maxRecDepth 100000 in
set_option maxHeartbeats 6400000 in
theorem r_neg {a : Value} {x : Int} {w : World} (ha : INum w a x) : Calls Tryz.prog 144 #[a] w fun e w' => IEnd w (-x) e w' := by
  obtain ⟨na, ao, al, ac, xa, rfl, ua, la, za⟩ := ha
  have ha : INum w (.agg #[.bool na, .slice ao al ac]) x := ⟨_, _, _, _, _, rfl, ua, la, za⟩
  obtain ⟨Z, hZ⟩ : ∃ Z : Int, Z = -x := ⟨_, rfl⟩
  have HZ : Hid (-x = Z) := hZ.symm
  rw [← hZ]
  clear hZ
  obtain ⟨W1, hW1⟩ : ∃ W1, W1 = (w.alloc (.cells #[.bool na, .slice ao al ac] 25)).alloc (.cells #[.bool false, .slice none 0 0] 25) := ⟨_, rfl⟩
  have qa : ICell W1 (w.heap.size) na (.slice ao al ac) := by rw [hW1]; exact (icell_step (icell_new _ (by simp)))
  have qR : ICell W1 (w.heap.size + 1) false (.slice none 0 0) := by rw [hW1]; exact (icell_new _ (by simp))
  have hb : Below w.heap.size w W1 := by rw [hW1]; exact bstep (belowA w _) (belowA _ _)
  have hsz : w.heap.size + 1 < W1.heap.size := by rw [hW1]; simp
  replace ua := ua.below (Nat.le_refl _) hb
  have HW1 : Hid (W1 = (w.alloc (.cells #[.bool na, .slice ao al ac] 25)).alloc (.cells #[.bool false, .slice none 0 0] 25)) := hW1
  clear hW1
  go_enter Tryz.func144, Tryz.ntmps144
  go_wp2_with fail
  rw [← HW1.out]
  clear HW1
  obtain ⟨g, hg⟩ : ∃ g, g = w.heap.size := ⟨_, rfl⟩
  rw [← hg] at qa qR hsz ⊢
  have HG : Hid (g = w.heap.size) := hg
  clear hg
  have hmk := make_ref (!na) _ _ _ ua (by omega)
  rw [← zv_neg, za] at hmk
  rw [HZ.out] at hmk
  refine (hmk).mono ?_
  rintro e w2 ⟨v, rfl, ⟨m, rfl, hm⟩, b⟩
  clear hmk
  obtain ⟨mo, ml, mc, rfl⟩ := hm.sl
  have hszz := hsz
  replace ua := ua.below (Nat.le_refl _) b
  replace qa := qa.below b
  replace qR := qR.below b
  replace hb := bstep hb b
  replace hsz := Nat.lt_of_lt_of_le hsz b.size
  clear b
  have HE : Hid (IEnd w (Z) (.returned (.agg #[.bool (decide (Z < 0)), .slice mo ml mc])) ((w2.setCell ⟨g + 1, 0, none⟩ (.bool (decide (Z < 0)))).setCell ⟨g + 1, 1, none⟩ (.slice mo ml mc))) := (int_done rfl (by rw [HG.out]; omega) hm hszz hb).i
  have HW : Hid (ICell ((w2.setCell ⟨g + 1, 0, none⟩ (.bool (decide (Z < 0)))).setCell ⟨g + 1, 1, none⟩ (.slice mo ml mc)) (g + 1) (decide (Z < 0)) (.slice mo ml mc)) := qR.write _ _
  obtain ⟨y0, y1⟩ := qR.cells
  have f0 := qR.thaw 0
  have f1 := qR.thaw 1
  generalize decide (Z < 0) = bb at *
  clear hszz ha za la
  clear hb hsz hm qa qR ua
  go_wp2_with fail
  (try simp only [Exit.inBlock, Exit.then])
  exact bodyPost_ret (results_cell_row rfl _ _ (g + 1) 25 _ (0, 0) _ rfl HW.out Tryz.underlying25 rfl (by kernel_rfl)) rfl HE.out
theorem nz_int2 {x : Nat} (h : 0 < x) : ((x : Int) == 0) = false := by
  have h1 : ¬ (x : Int) = 0 := by omega
  simpa using h1
set_option maxRecDepth 100000 in
set_option maxHeartbeats 6400000 in
theorem r_sign {a : Value} {x : Int} {w : World} (ha : INum w a x) : Calls Tryz.prog 130 #[a] w fun e w' => e = .returned (.int .i64 (cmpZ x 0)) ∧ Below w.heap.size w w' := by
  obtain ⟨c, hc⟩ : ∃ c, c = cmpZ x 0 := ⟨_, rfl⟩
  have HC : Hid (c = cmpZ x 0) := hc
  rw [← hc]
  clear hc
  obtain ⟨na, ao, al, ac, xa, rfl, ua, la, za⟩ := ha
  have ha : INum w (.agg #[.bool na, .slice ao al ac]) x := ⟨_, _, _, _, _, rfl, ua, la, za⟩
  obtain ⟨W1, hW1⟩ : ∃ W1, W1 = w.alloc (.cells #[.bool na, .slice ao al ac] 25) := ⟨_, rfl⟩
  have qa : ICell W1 (w.heap.size) na (.slice ao al ac) := by rw [hW1]; exact (icell_new _ (by simp))
  have hb : Below w.heap.size w W1 := by rw [hW1]; exact belowA w _
  have hsz : w.heap.size < W1.heap.size := by rw [hW1]; simp
  replace ha := ha.below hb
  have HW1 : Hid (W1 = w.alloc (.cells #[.bool na, .slice ao al ac] 25)) := hW1
  clear hW1
  clear ua la za
  go_enter Tryz.func130, Tryz.ntmps130
  go_wp2_with fail
  rw [← HW1.out]
  clear HW1
  obtain ⟨g, hg⟩ : ∃ g, g = w.heap.size := ⟨_, rfl⟩
  rw [← hg] at qa hsz ⊢
  have HG : Hid (g = w.heap.size) := hg
  clear hg
  refine (r_norm ha).mono ?_
  rintro e w2 ⟨v, rfl, ⟨m, rfl, hm⟩, b⟩
  obtain ⟨mo, mc, rfl, _, _⟩ := hm.num.ao
  obtain ⟨ml, hml⟩ : ∃ l, l = (lim x.natAbs).length := ⟨_, rfl⟩
  rw [← hml]
  clear hm
  replace ha := ha.below b
  replace qa := qa.below b
  replace hb := bstep hb b
  replace hsz := Nat.lt_of_lt_of_le hsz b.size
  clear b
  obtain ⟨bb, hbb⟩ : ∃ b, b = decide (x < 0) := ⟨_, rfl⟩
  rw [← hbb]
  rcases Int.lt_trichotomy x 0 with hc | hc | hc
  · have e1 : bb = true := by rw [hbb]; exact decide_eq_true hc
    have e2 : cmpZ x 0 = -1 := cmpZ_lt hc
    have e3 : ¬ ml = 0 := by rw [hml]; have := (lim_pos_len (n := x.natAbs)).2 (by omega); omega
    have e4 : ((ml : Int) == 0) = false := nz_int2 (by omega)
    clear e3
    subst e1
    have E2 : Hid (c = _) := HC.out.trans e2
    clear e2 hbb hml HC hc
    obtain ⟨W3, hW3⟩ : ∃ W, W = w2.alloc (.cells #[.bool true, .slice mo ml mc] 25) := ⟨_, rfl⟩
    have qN : ICell W3 (w2.heap.size) true (.slice mo ml mc) := by rw [hW3]; exact (icell_new _ rfl)
    have b : Below w2.heap.size w2 W3 := by rw [hW3]; exact belowA _ _
    replace ha := ha.below b
    replace qa := qa.below b
    replace hb := bstep hb b
    replace hsz := Nat.lt_of_lt_of_le hsz b.size
    clear b
    have rqa0 : (w2.alloc (.cells #[.bool true, .slice mo ml mc] 25)).cell? ⟨g, 0, none⟩ = some (.bool na) := by rw [← hW3]; exact qa.cells.1
    have rqa1 : (w2.alloc (.cells #[.bool true, .slice mo ml mc] 25)).cell? ⟨g, 1, none⟩ = some (.slice ao al ac) := by rw [← hW3]; exact qa.cells.2
    have rqN0 : (w2.alloc (.cells #[.bool true, .slice mo ml mc] 25)).cell? ⟨w2.heap.size, 0, none⟩ = some (.bool true) := by rw [← hW3]; exact qN.cells.1
    have rqN1 : (w2.alloc (.cells #[.bool true, .slice mo ml mc] 25)).cell? ⟨w2.heap.size, 1, none⟩ = some (.slice mo ml mc) := by rw [← hW3]; exact qN.cells.2
    obtain ⟨v3, hv3⟩ : ∃ v, v = w2.heap.size := ⟨_, rfl⟩
    rw [← hv3] at qN
    have HW3 : Hid (W3 = w2.alloc (.cells #[.bool true, .slice mo ml mc] 25)) := hW3
    have Hv3 : Hid (v3 = w2.heap.size) := hv3
    clear hW3 hv3
    have HE : Hid (Below w.heap.size w W3) := hb
    clear hb hsz qa qN ha
    go_wp2_with fail
    rw [← HW3.out]
    go_ret
    exact ⟨by rw [E2.out]; rfl, HE.out⟩
  · have e1 : bb = false := by rw [hbb]; exact decide_eq_false (by omega)
    have e2 : cmpZ x 0 = 0 := by rw [hc]; rfl
    have e3 : ml = 0 := by rw [hml, hc]; rfl
    subst e3
    subst e1
    have E2 : Hid (c = _) := HC.out.trans e2
    clear e2 hbb hml HC hc
    obtain ⟨W3, hW3⟩ : ∃ W, W = w2.alloc (.cells #[.bool false, .slice mo 0 mc] 25) := ⟨_, rfl⟩
    have qN : ICell W3 (w2.heap.size) false (.slice mo 0 mc) := by rw [hW3]; exact (icell_new _ rfl)
    have b : Below w2.heap.size w2 W3 := by rw [hW3]; exact belowA _ _
    replace ha := ha.below b
    replace qa := qa.below b
    replace hb := bstep hb b
    replace hsz := Nat.lt_of_lt_of_le hsz b.size
    clear b
    have rqa0 : (w2.alloc (.cells #[.bool false, .slice mo 0 mc] 25)).cell? ⟨g, 0, none⟩ = some (.bool na) := by rw [← hW3]; exact qa.cells.1
    have rqa1 : (w2.alloc (.cells #[.bool false, .slice mo 0 mc] 25)).cell? ⟨g, 1, none⟩ = some (.slice ao al ac) := by rw [← hW3]; exact qa.cells.2
    have rqN0 : (w2.alloc (.cells #[.bool false, .slice mo 0 mc] 25)).cell? ⟨w2.heap.size, 0, none⟩ = some (.bool false) := by rw [← hW3]; exact qN.cells.1
    have rqN1 : (w2.alloc (.cells #[.bool false, .slice mo 0 mc] 25)).cell? ⟨w2.heap.size, 1, none⟩ = some (.slice mo 0 mc) := by rw [← hW3]; exact qN.cells.2
    obtain ⟨v3, hv3⟩ : ∃ v, v = w2.heap.size := ⟨_, rfl⟩
    rw [← hv3] at qN
    have HW3 : Hid (W3 = w2.alloc (.cells #[.bool false, .slice mo 0 mc] 25)) := hW3
    have Hv3 : Hid (v3 = w2.heap.size) := hv3
    clear hW3 hv3
    have HE : Hid (Below w.heap.size w W3) := hb
    clear hb hsz qa qN ha
    go_wp2_with fail
    rw [← HW3.out]
    go_ret
    exact ⟨by rw [E2.out]; rfl, HE.out⟩
  · have e1 : bb = false := by rw [hbb]; exact decide_eq_false (by omega)
    have e2 : cmpZ x 0 = 1 := cmpZ_gt hc
    have e3 : ¬ ml = 0 := by rw [hml]; have := (lim_pos_len (n := x.natAbs)).2 (by omega); omega
    have e4 : ((ml : Int) == 0) = false := nz_int2 (by omega)
    clear e3
    subst e1
    have E2 : Hid (c = _) := HC.out.trans e2
    clear e2 hbb hml HC hc
    obtain ⟨W3, hW3⟩ : ∃ W, W = w2.alloc (.cells #[.bool false, .slice mo ml mc] 25) := ⟨_, rfl⟩
    have qN : ICell W3 (w2.heap.size) false (.slice mo ml mc) := by rw [hW3]; exact (icell_new _ rfl)
    have b : Below w2.heap.size w2 W3 := by rw [hW3]; exact belowA _ _
    replace ha := ha.below b
    replace qa := qa.below b
    replace hb := bstep hb b
    replace hsz := Nat.lt_of_lt_of_le hsz b.size
    clear b
    have rqa0 : (w2.alloc (.cells #[.bool false, .slice mo ml mc] 25)).cell? ⟨g, 0, none⟩ = some (.bool na) := by rw [← hW3]; exact qa.cells.1
    have rqa1 : (w2.alloc (.cells #[.bool false, .slice mo ml mc] 25)).cell? ⟨g, 1, none⟩ = some (.slice ao al ac) := by rw [← hW3]; exact qa.cells.2
    have rqN0 : (w2.alloc (.cells #[.bool false, .slice mo ml mc] 25)).cell? ⟨w2.heap.size, 0, none⟩ = some (.bool false) := by rw [← hW3]; exact qN.cells.1
    have rqN1 : (w2.alloc (.cells #[.bool false, .slice mo ml mc] 25)).cell? ⟨w2.heap.size, 1, none⟩ = some (.slice mo ml mc) := by rw [← hW3]; exact qN.cells.2
    obtain ⟨v3, hv3⟩ : ∃ v, v = w2.heap.size := ⟨_, rfl⟩
    rw [← hv3] at qN
    have HW3 : Hid (W3 = w2.alloc (.cells #[.bool false, .slice mo ml mc] 25)) := hW3
    have Hv3 : Hid (v3 = w2.heap.size) := hv3
    clear hW3 hv3
    have HE : Hid (Below w.heap.size w W3) := hb
    clear hb hsz qa qN ha
    go_wp2_with fail
    rw [← HW3.out]
    go_ret
    exact ⟨by rw [E2.out]; rfl, HE.out⟩
theorem lim_sum {xs ys : List Nat} (hx : limbs xs) (hy : limbs ys) {n : Nat} (lx : xs.length ≤ n) (ly : ys.length ≤ n) : (lim (val xs + val ys)).length ≤ n + 1 := by
  apply lim_len_le
  have h1 := Nat.lt_of_lt_of_le (val_lt hx) (Nat.pow_le_pow_right (Nat.succ_pos 4294967295) lx)
  have h2 := Nat.lt_of_lt_of_le (val_lt hy) (Nat.pow_le_pow_right (Nat.succ_pos 4294967295) ly)
  rw [Nat.pow_succ]
  generalize 4294967296 ^ n = P at *
  omega
set_option maxRecDepth 100000 in
set_option maxHeartbeats 6400000 in
theorem r_add {a b : Value} {x y : Int} {w : World} (ha : INum w a x) (hb' : INum w b y) : Calls Tryz.prog 82 #[a, b] w fun e w' => IEnd w (x + y) e w' := by
  obtain ⟨Z, hZ⟩ : ∃ Z : Int, Z = x + y := ⟨_, rfl⟩
  have HZ : Hid (Z = x + y) := hZ
  rw [← hZ]
  clear hZ
  obtain ⟨na, ao, al, ac, xa, rfl, ua, la, za⟩ := ha
  have ha : INum w (.agg #[.bool na, .slice ao al ac]) x := ⟨_, _, _, _, _, rfl, ua, la, za⟩
  obtain ⟨nb, bo, bl, bc, xb, rfl, ub, lb, zb⟩ := hb'
  have hb' : INum w (.agg #[.bool nb, .slice bo bl bc]) y := ⟨_, _, _, _, _, rfl, ub, lb, zb⟩
  clear ha hb'
  rw [← za, ← zb] at HZ
  clear za zb
  cases hab : (na == nb)
  · have hab2 := hab
    replace hab : na ≠ nb := by simpa using hab
    by_cases hle : val xb ≤ val xa
    · obtain ⟨W1, hW1⟩ : ∃ W1, W1 = ((w.alloc (.cells #[.bool na, .slice ao al ac] 25)).alloc (.cells #[.bool nb, .slice bo bl bc] 25)).alloc (.cells #[.bool false, .slice none 0 0] 25) := ⟨_, rfl⟩
      have qa : ICell W1 (w.heap.size) na (.slice ao al ac) := by rw [hW1]; exact (icell_step (icell_step (icell_new _ (by simp))))
      have qb : ICell W1 (w.heap.size + 1) nb (.slice bo bl bc) := by rw [hW1]; exact (icell_step (icell_new _ (by simp)))
      have qR : ICell W1 (w.heap.size + 1 + 1) false (.slice none 0 0) := by rw [hW1]; exact (icell_new _ (by simp))
      have hb : Below w.heap.size w W1 := by rw [hW1]; exact bstep (bstep (belowA w _) (belowA _ _)) (belowA _ _)
      have hsz : w.heap.size + 1 + 1 < W1.heap.size := by rw [hW1]; simp
      replace ua := ua.below (Nat.le_refl _) hb
      replace ub := ub.below (Nat.le_refl _) hb
      have HW1 : Hid (W1 = ((w.alloc (.cells #[.bool na, .slice ao al ac] 25)).alloc (.cells #[.bool nb, .slice bo bl bc] 25)).alloc (.cells #[.bool false, .slice none 0 0] 25)) := hW1
      clear hW1
      go_enter Tryz.func82, Tryz.ntmps82
      go_wp2_with fail
      rw [← HW1.out]
      clear HW1
      obtain ⟨g, hg⟩ : ∃ g, g = w.heap.size := ⟨_, rfl⟩
      rw [← hg] at qa qb qR hsz ⊢
      have HG : Hid (g = w.heap.size) := hg
      clear hg
      have hs := sub_ref _ _ _ _ _ ua ub (by omega) (by omega)
      unfold SubTold at hs
      rw [show leB (val xb) (val xa) = true by simp [leB]; omega] at hs
      refine (hs).mono ?_
      rintro e w2 ⟨v, rfl, od, b⟩
      clear hs
      obtain ⟨so, sl, sc, rfl⟩ := od.sl
      replace ua := ua.below (Nat.le_refl _) b
      replace ub := ub.below (Nat.le_refl _) b
      replace qa := qa.below b
      replace qb := qb.below b
      replace qR := qR.below b
      replace hb := bstep hb b
      replace hsz := Nat.lt_of_lt_of_le hsz b.size
      clear b
      have hmk := make_ref na _ _ _ od.num (by have := lim_le ua (n := val xa - val xb) (by omega); omega)
      rw [val_lim, ← zv_sub hab hle, ← HZ.out] at hmk
      obtain ⟨cqa0, cqa1⟩ := qa.cells
      obtain ⟨cqb0, cqb1⟩ := qb.cells
      obtain ⟨cqR0, cqR1⟩ := qR.cells
      go_wp2_with fail
      clear cqa0 cqa1 cqb0 cqb1 cqR0 cqR1
      refine (hmk).mono ?_
      rintro e w3 ⟨v, rfl, ⟨m, rfl, hm⟩, b⟩
      clear hmk
      obtain ⟨mo, ml, mc, rfl⟩ := hm.sl
      have hszz := hsz
      replace ua := ua.below (Nat.le_refl _) b
      replace ub := ub.below (Nat.le_refl _) b
      replace od := od.below b
      replace qa := qa.below b
      replace qb := qb.below b
      replace qR := qR.below b
      replace hb := bstep hb b
      replace hsz := Nat.lt_of_lt_of_le hsz b.size
      clear b
      have HE : Hid (IEnd w (Z) (.returned (.agg #[.bool (decide (Z < 0)), .slice mo ml mc])) ((w3.setCell ⟨g + 1 + 1, 0, none⟩ (.bool (decide (Z < 0)))).setCell ⟨g + 1 + 1, 1, none⟩ (.slice mo ml mc))) := (int_done rfl (by rw [HG.out]; omega) hm hszz hb).i
      have HW : Hid (ICell ((w3.setCell ⟨g + 1 + 1, 0, none⟩ (.bool (decide (Z < 0)))).setCell ⟨g + 1 + 1, 1, none⟩ (.slice mo ml mc)) (g + 1 + 1) (decide (Z < 0)) (.slice mo ml mc)) := qR.write _ _
      obtain ⟨y0, y1⟩ := qR.cells
      have f0 := qR.thaw 0
      have f1 := qR.thaw 1
      generalize decide (Z < 0) = bb at *
      clear hszz
      clear hb hsz hm qa qb qR ua ub od
      go_wp2_with fail
      (try simp only [Exit.inBlock, Exit.then])
      exact bodyPost_ret (results_cell_row rfl _ _ (g + 1 + 1) 25 _ (0, 0) _ rfl HW.out Tryz.underlying25 rfl (by kernel_rfl)) rfl HE.out
    · obtain ⟨W1, hW1⟩ : ∃ W1, W1 = ((w.alloc (.cells #[.bool na, .slice ao al ac] 25)).alloc (.cells #[.bool nb, .slice bo bl bc] 25)).alloc (.cells #[.bool false, .slice none 0 0] 25) := ⟨_, rfl⟩
      have qa : ICell W1 (w.heap.size) na (.slice ao al ac) := by rw [hW1]; exact (icell_step (icell_step (icell_new _ (by simp))))
      have qb : ICell W1 (w.heap.size + 1) nb (.slice bo bl bc) := by rw [hW1]; exact (icell_step (icell_new _ (by simp)))
      have qR : ICell W1 (w.heap.size + 1 + 1) false (.slice none 0 0) := by rw [hW1]; exact (icell_new _ (by simp))
      have hb : Below w.heap.size w W1 := by rw [hW1]; exact bstep (bstep (belowA w _) (belowA _ _)) (belowA _ _)
      have hsz : w.heap.size + 1 + 1 < W1.heap.size := by rw [hW1]; simp
      replace ua := ua.below (Nat.le_refl _) hb
      replace ub := ub.below (Nat.le_refl _) hb
      have HW1 : Hid (W1 = ((w.alloc (.cells #[.bool na, .slice ao al ac] 25)).alloc (.cells #[.bool nb, .slice bo bl bc] 25)).alloc (.cells #[.bool false, .slice none 0 0] 25)) := hW1
      clear hW1
      go_enter Tryz.func82, Tryz.ntmps82
      go_wp2_with fail
      rw [← HW1.out]
      clear HW1
      obtain ⟨g, hg⟩ : ∃ g, g = w.heap.size := ⟨_, rfl⟩
      rw [← hg] at qa qb qR hsz ⊢
      have HG : Hid (g = w.heap.size) := hg
      clear hg
      have hs := sub_ref _ _ _ _ _ ua ub (by omega) (by omega)
      unfold SubTold at hs
      rw [show leB (val xb) (val xa) = false by simp [leB]; omega] at hs
      refine (hs).mono ?_
      rintro e w2 ⟨v, rfl, od, b⟩
      clear hs
      obtain ⟨so, sl, sc, rfl⟩ := od.sl
      replace ua := ua.below (Nat.le_refl _) b
      replace ub := ub.below (Nat.le_refl _) b
      replace qa := qa.below b
      replace qb := qb.below b
      replace qR := qR.below b
      replace hb := bstep hb b
      replace hsz := Nat.lt_of_lt_of_le hsz b.size
      clear b
      obtain ⟨cqa0, cqa1⟩ := qa.cells
      obtain ⟨cqb0, cqb1⟩ := qb.cells
      obtain ⟨cqR0, cqR1⟩ := qR.cells
      go_wp2_with fail
      clear cqa0 cqa1 cqb0 cqb1 cqR0 cqR1
      clear od
      have hs := sub_ref _ _ _ _ _ ub ua (by omega) (by omega)
      unfold SubTold at hs
      rw [show leB (val xa) (val xb) = true by simp [leB]; omega] at hs
      refine (hs).mono ?_
      rintro e w3 ⟨v, rfl, od, b⟩
      clear hs
      obtain ⟨to, tl, tc, rfl⟩ := od.sl
      replace ua := ua.below (Nat.le_refl _) b
      replace ub := ub.below (Nat.le_refl _) b
      replace qa := qa.below b
      replace qb := qb.below b
      replace qR := qR.below b
      replace hb := bstep hb b
      replace hsz := Nat.lt_of_lt_of_le hsz b.size
      clear b
      have hmk := make_ref nb _ _ _ od.num (by have := lim_le ub (n := val xb - val xa) (by omega); omega)
      rw [val_lim, ← zv_sub' hab (by omega), ← HZ.out] at hmk
      obtain ⟨cqa0, cqa1⟩ := qa.cells
      obtain ⟨cqb0, cqb1⟩ := qb.cells
      obtain ⟨cqR0, cqR1⟩ := qR.cells
      go_wp2_with fail
      clear cqa0 cqa1 cqb0 cqb1 cqR0 cqR1
      refine (hmk).mono ?_
      rintro e w4 ⟨v, rfl, ⟨m, rfl, hm⟩, b⟩
      clear hmk
      obtain ⟨mo, ml, mc, rfl⟩ := hm.sl
      have hszz := hsz
      replace ua := ua.below (Nat.le_refl _) b
      replace ub := ub.below (Nat.le_refl _) b
      replace od := od.below b
      replace qa := qa.below b
      replace qb := qb.below b
      replace qR := qR.below b
      replace hb := bstep hb b
      replace hsz := Nat.lt_of_lt_of_le hsz b.size
      clear b
      have HE : Hid (IEnd w (Z) (.returned (.agg #[.bool (decide (Z < 0)), .slice mo ml mc])) ((w4.setCell ⟨g + 1 + 1, 0, none⟩ (.bool (decide (Z < 0)))).setCell ⟨g + 1 + 1, 1, none⟩ (.slice mo ml mc))) := (int_done rfl (by rw [HG.out]; omega) hm hszz hb).i
      have HW : Hid (ICell ((w4.setCell ⟨g + 1 + 1, 0, none⟩ (.bool (decide (Z < 0)))).setCell ⟨g + 1 + 1, 1, none⟩ (.slice mo ml mc)) (g + 1 + 1) (decide (Z < 0)) (.slice mo ml mc)) := qR.write _ _
      obtain ⟨y0, y1⟩ := qR.cells
      have f0 := qR.thaw 0
      have f1 := qR.thaw 1
      generalize decide (Z < 0) = bb at *
      clear hszz
      clear hb hsz hm qa qb qR ua ub od
      go_wp2_with fail
      (try simp only [Exit.inBlock, Exit.then])
      exact bodyPost_ret (results_cell_row rfl _ _ (g + 1 + 1) 25 _ (0, 0) _ rfl HW.out Tryz.underlying25 rfl (by kernel_rfl)) rfl HE.out
  · have e : nb = na := by simpa using (beq_iff_eq.1 hab).symm
    subst e
    clear hab
    have hab : (nb == nb) = true := by simp
    obtain ⟨W1, hW1⟩ : ∃ W1, W1 = ((w.alloc (.cells #[.bool nb, .slice ao al ac] 25)).alloc (.cells #[.bool nb, .slice bo bl bc] 25)).alloc (.cells #[.bool false, .slice none 0 0] 25) := ⟨_, rfl⟩
    have qa : ICell W1 (w.heap.size) nb (.slice ao al ac) := by rw [hW1]; exact (icell_step (icell_step (icell_new _ (by simp))))
    have qb : ICell W1 (w.heap.size + 1) nb (.slice bo bl bc) := by rw [hW1]; exact (icell_step (icell_new _ (by simp)))
    have qR : ICell W1 (w.heap.size + 1 + 1) false (.slice none 0 0) := by rw [hW1]; exact (icell_new _ (by simp))
    have hb : Below w.heap.size w W1 := by rw [hW1]; exact bstep (bstep (belowA w _) (belowA _ _)) (belowA _ _)
    have hsz : w.heap.size + 1 + 1 < W1.heap.size := by rw [hW1]; simp
    replace ua := ua.below (Nat.le_refl _) hb
    replace ub := ub.below (Nat.le_refl _) hb
    have HW1 : Hid (W1 = ((w.alloc (.cells #[.bool nb, .slice ao al ac] 25)).alloc (.cells #[.bool nb, .slice bo bl bc] 25)).alloc (.cells #[.bool false, .slice none 0 0] 25)) := hW1
    clear hW1
    go_enter Tryz.func82, Tryz.ntmps82
    go_wp2_with fail
    rw [← HW1.out]
    clear HW1
    obtain ⟨g, hg⟩ : ∃ g, g = w.heap.size := ⟨_, rfl⟩
    rw [← hg] at qa qb qR hsz ⊢
    have HG : Hid (g = w.heap.size) := hg
    clear hg
    have HZ2 : Hid (Z = zv nb (val xa) + zv nb (val xb)) := HZ.out
    refine region_late [(1, fun w' => w'.cell? ⟨g, 0, none⟩ = some (.bool nb)), (3, fun w' => w'.cell? ⟨g, 1, none⟩ = some (.slice ao al ac)), (5, fun w' => w'.cell? ⟨g + 1, 1, none⟩ = some (.slice bo bl bc))] (by kernel_rfl) ?_
    have hHeld : AllL W1.drew [(1, fun w' => w'.cell? ⟨g, 0, none⟩ = some (.bool nb)), (3, fun w' => w'.cell? ⟨g, 1, none⟩ = some (.slice ao al ac)), (5, fun w' => w'.cell? ⟨g + 1, 1, none⟩ = some (.slice bo bl bc))] := ⟨(show ICell W1.drew (g) nb (.slice ao al ac) from qa).cells.1, (show ICell W1.drew (g) nb (.slice ao al ac) from qa).cells.2, (show ICell W1.drew (g + 1) nb (.slice bo bl bc) from qb).cells.2, trivial⟩
    refine late_free 0 (v := .pointer (some ⟨g, 0, none⟩)) rfl (by kernel_rfl) (by kernel_rfl) (by kernel_rfl) (by kernel_rfl) (by kernel_rfl) (by kernel_rfl) (fun _ _ _ h => h) (Or.inl ⟨by rfl, ?_⟩) hHeld ?_
    · (intro u _; go_simp)
    (try simp only [Act.put, List.setIfInBounds_toArray, List.set_cons_zero, List.set_cons_succ])
    refine late_take 1 (v := .bool nb) rfl (by kernel_rfl) (List.Mem.head _) (by kernel_rfl) (by kernel_rfl) (by kernel_rfl) (by kernel_rfl) (fun _ _ _ h => h) (Or.inl ⟨by rfl, ?_⟩) hHeld ?_
    · (intro u hu; (try dsimp only at hu); go_split_ands; go_simp)
    (try simp only [Act.put, List.setIfInBounds_toArray, List.set_cons_zero, List.set_cons_succ])
    refine late_free 2 (v := .pointer (some ⟨g, 1, none⟩)) rfl (by kernel_rfl) (by kernel_rfl) (by kernel_rfl) (by kernel_rfl) (by kernel_rfl) (by kernel_rfl) (fun _ _ _ h => h) (Or.inl ⟨by rfl, ?_⟩) hHeld ?_
    · (intro u _; go_simp)
    (try simp only [Act.put, List.setIfInBounds_toArray, List.set_cons_zero, List.set_cons_succ])
    refine late_take 3 (v := .slice ao al ac) rfl (by kernel_rfl) (List.Mem.tail _ (List.Mem.head _)) (by kernel_rfl) (by kernel_rfl) (by kernel_rfl) (by kernel_rfl) (fun _ _ _ h => h) (Or.inl ⟨by rfl, ?_⟩) hHeld ?_
    · (intro u hu; (try dsimp only at hu); go_split_ands; go_simp)
    (try simp only [Act.put, List.setIfInBounds_toArray, List.set_cons_zero, List.set_cons_succ])
    refine late_free 4 (v := .pointer (some ⟨g + 1, 1, none⟩)) rfl (by kernel_rfl) (by kernel_rfl) (by kernel_rfl) (by kernel_rfl) (by kernel_rfl) (by kernel_rfl) (fun _ _ _ h => h) (Or.inl ⟨by rfl, ?_⟩) hHeld ?_
    · (intro u _; go_simp)
    (try simp only [Act.put, List.setIfInBounds_toArray, List.set_cons_zero, List.set_cons_succ])
    refine late_take 5 (v := .slice bo bl bc) rfl (by kernel_rfl) (List.Mem.tail _ (List.Mem.tail _ (List.Mem.head _))) (by kernel_rfl) (by kernel_rfl) (by kernel_rfl) (by kernel_rfl) (fun _ _ _ h => h) (Or.inl ⟨by rfl, ?_⟩) hHeld ?_
    · (intro u hu; (try dsimp only at hu); go_split_ands; go_simp)
    (try simp only [Act.put, List.setIfInBounds_toArray, List.set_cons_zero, List.set_cons_succ])
    refine late_step 6 (by kernel_rfl) rfl (fun K hK => ?_)
    go_simp
    refine (add_ref _ _ _ _ _ (ua.below (Nat.le_refl _) (below_drew' _)) (ub.below (Nat.le_refl _) (below_drew' _)) (by omega) (by omega)).mono ?_
    rintro e w2 ⟨v, rfl, hv, b2⟩
    have hl9 := lim_sum ua.1 ub.1 la lb
    obtain ⟨so, sl, sc, rfl⟩ := hv.sl
    have us := hv.num
    clear hv
    have B2 : Below W1.heap.size W1 w2 := bstep (below_drew' _) b2
    clear hHeld
    have hHeld : AllL w2 [(1, fun w' => w'.cell? ⟨g, 0, none⟩ = some (.bool nb)), (3, fun w' => w'.cell? ⟨g, 1, none⟩ = some (.slice ao al ac)), (5, fun w' => w'.cell? ⟨g + 1, 1, none⟩ = some (.slice bo bl bc))] := ⟨(qa.below B2).cells.1, (qa.below B2).cells.2, (qb.below B2).cells.2, trivial⟩
    go_wp2_with fail
    refine hK.out _ _ (AllL.kept hHeld) ?_
    clear hK K
    (try simp only [Act.put, List.setIfInBounds_toArray, List.set_cons_zero, List.set_cons_succ])
    refine late_step 7 (by kernel_rfl) rfl (fun K hK => ?_)
    go_simp
    have hmk := make_ref nb _ _ _ us (by omega)
    rw [val_lim, ← zv_add, ← HZ2.out] at hmk
    refine hmk.mono ?_
    rintro e w3 ⟨v, rfl, ⟨m, rfl, hm⟩, b3⟩
    clear hmk
    obtain ⟨mo, ml, mc, rfl⟩ := hm.sl
    have B3 : Below W1.heap.size W1 w3 := bstep B2 b3
    clear hHeld
    have hHeld : AllL w3 [(1, fun w' => w'.cell? ⟨g, 0, none⟩ = some (.bool nb)), (3, fun w' => w'.cell? ⟨g, 1, none⟩ = some (.slice ao al ac)), (5, fun w' => w'.cell? ⟨g + 1, 1, none⟩ = some (.slice bo bl bc))] := ⟨(qa.below B3).cells.1, (qa.below B3).cells.2, (qb.below B3).cells.2, trivial⟩
    go_wp2_with fail
    refine hK.out _ _ (AllL.kept hHeld) ?_
    clear hK K
    (try simp only [Act.put, List.setIfInBounds_toArray, List.set_cons_zero, List.set_cons_succ])
    have qR2 := qR.below B3
    have HE : Hid (IEnd w (Z) (.returned (.agg #[.bool (decide (Z < 0)), .slice mo ml mc])) ((w3.setCell ⟨g + 1 + 1, 0, none⟩ (.bool (decide (Z < 0)))).setCell ⟨g + 1 + 1, 1, none⟩ (.slice mo ml mc))) := (int_done rfl (by rw [HG.out]; omega) hm (Nat.lt_of_lt_of_le hsz B2.size) (bstep hb B3)).i
    have HW : Hid (ICell ((w3.setCell ⟨g + 1 + 1, 0, none⟩ (.bool (decide (Z < 0)))).setCell ⟨g + 1 + 1, 1, none⟩ (.slice mo ml mc)) (g + 1 + 1) (decide (Z < 0)) (.slice mo ml mc)) := qR2.write _ _
    obtain ⟨y0, y1⟩ := qR2.cells
    have f0 := qR2.thaw 0
    have f1 := qR2.thaw 1
    generalize decide (Z < 0) = bb at *
    clear qR2
    clear us hl9
    refine late_step 8 (by kernel_rfl) rfl (fun K hK => ?_)
    go_simp
    refine hK.out _ _ ⟨Or.inl ⟨7, by kernel_rfl, by kernel_rfl⟩, Or.inl ⟨6, by kernel_rfl, by kernel_rfl⟩, Or.inl ⟨6, by kernel_rfl, by kernel_rfl⟩, trivial⟩ ?_
    clear hK K
    (try simp only [Act.put, List.setIfInBounds_toArray, List.set_cons_zero, List.set_cons_succ])
    refine late_done (by kernel_rfl) ?_ _
    clear hHeld
    clear hb hsz hm qa qb qR ua ub b2 b3 B2 B3 
    go_wp2_with fail
    (try simp only [Exit.inBlock, Exit.then])
    exact bodyPost_ret (results_cell_row rfl _ _ (g + 1 + 1) 25 _ (0, 0) _ rfl HW.out Tryz.underlying25 rfl (by kernel_rfl)) rfl HE.out
set_option maxRecDepth 100000 in
set_option maxHeartbeats 6400000 in
theorem r_sub {a b : Value} {x y : Int} {w : World} (ha : INum w a x) (hb' : INum w b y) {L : Nat} (hS : Sz y L) (hL : L ≤ 1000000) : Calls Tryz.prog 131 #[a, b] w fun e w' => IEnd w (x - y) e w' := by
  obtain ⟨Z, hZ⟩ : ∃ Z : Int, Z = x - y := ⟨_, rfl⟩
  have HZ : Hid (x + -y = Z) := by show _ = _; rw [hZ]; omega
  rw [← hZ]
  clear hZ
  obtain ⟨na, ao, al, ac, xa, rfl, ua, la, za⟩ := ha
  have ha : INum w (.agg #[.bool na, .slice ao al ac]) x := ⟨_, _, _, _, _, rfl, ua, la, za⟩
  obtain ⟨nb, bo, bl, bc, xb, rfl, ub, lb, zb⟩ := hb'
  have hb' : INum w (.agg #[.bool nb, .slice bo bl bc]) y := ⟨_, _, _, _, _, rfl, ub, lb, zb⟩
  clear ua la za ub lb zb
  obtain ⟨W1, hW1⟩ : ∃ W1, W1 = ((w.alloc (.cells #[.bool na, .slice ao al ac] 25)).alloc (.cells #[.bool nb, .slice bo bl bc] 25)).alloc (.cells #[.bool false, .slice none 0 0] 25) := ⟨_, rfl⟩
  have qa : ICell W1 (w.heap.size) na (.slice ao al ac) := by rw [hW1]; exact (icell_step (icell_step (icell_new _ (by simp))))
  have qb : ICell W1 (w.heap.size + 1) nb (.slice bo bl bc) := by rw [hW1]; exact (icell_step (icell_new _ (by simp)))
  have qR : ICell W1 (w.heap.size + 1 + 1) false (.slice none 0 0) := by rw [hW1]; exact (icell_new _ (by simp))
  have hb : Below w.heap.size w W1 := by rw [hW1]; exact bstep (bstep (belowA w _) (belowA _ _)) (belowA _ _)
  have hsz : w.heap.size + 1 + 1 < W1.heap.size := by rw [hW1]; simp
  replace ha := ha.below hb
  replace hb' := hb'.below hb
  have HW1 : Hid (W1 = ((w.alloc (.cells #[.bool na, .slice ao al ac] 25)).alloc (.cells #[.bool nb, .slice bo bl bc] 25)).alloc (.cells #[.bool false, .slice none 0 0] 25)) := hW1
  clear hW1
  go_enter Tryz.func131, Tryz.ntmps131
  go_wp2_with fail
  rw [← HW1.out]
  clear HW1
  obtain ⟨g, hg⟩ : ∃ g, g = w.heap.size := ⟨_, rfl⟩
  rw [← hg] at qa qb qR hsz ⊢
  have HG : Hid (g = w.heap.size) := hg
  clear hg
  refine region_late [(0, fun w' => w'.cell? ⟨g, 0, none⟩ = some (.bool na) ∧ w'.cell? ⟨g, 1, none⟩ = some (.slice ao al ac)), (1, fun w' => w'.cell? ⟨g + 1, 0, none⟩ = some (.bool nb) ∧ w'.cell? ⟨g + 1, 1, none⟩ = some (.slice bo bl bc))] (by kernel_rfl) ?_
  have hHeld : AllL W1.drew [(0, fun w' => w'.cell? ⟨g, 0, none⟩ = some (.bool na) ∧ w'.cell? ⟨g, 1, none⟩ = some (.slice ao al ac)), (1, fun w' => w'.cell? ⟨g + 1, 0, none⟩ = some (.bool nb) ∧ w'.cell? ⟨g + 1, 1, none⟩ = some (.slice bo bl bc))] := ⟨(show ICell W1.drew (g) na (.slice ao al ac) from qa).cells, (show ICell W1.drew (g + 1) nb (.slice bo bl bc) from qb).cells, trivial⟩
  refine late_take 0 (v := .agg #[.bool na, .slice ao al ac]) rfl (by kernel_rfl) (List.Mem.head _) (by kernel_rfl) (by kernel_rfl) (by kernel_rfl) (by kernel_rfl) (fun _ _ _ h => h) (Or.inl ⟨by rfl, ?_⟩) hHeld ?_
  · (intro u hu; (try dsimp only at hu); go_split_ands; go_simp)
  (try simp only [Act.put, List.setIfInBounds_toArray, List.set_cons_zero, List.set_cons_succ])
  refine late_take 1 (v := .agg #[.bool nb, .slice bo bl bc]) rfl (by kernel_rfl) (List.Mem.tail _ (List.Mem.head _)) (by kernel_rfl) (by kernel_rfl) (by kernel_rfl) (by kernel_rfl) (fun _ _ _ h => h) (Or.inl ⟨by rfl, ?_⟩) hHeld ?_
  · (intro u hu; (try dsimp only at hu); go_split_ands; go_simp)
  (try simp only [Act.put, List.setIfInBounds_toArray, List.set_cons_zero, List.set_cons_succ])
  refine late_step 2 (by kernel_rfl) rfl (fun K hK => ?_)
  go_simp
  refine (r_neg (hb'.below (below_drew' _))).mono ?_
  rintro e w2 ⟨v, rfl, hv, b2⟩
  obtain ⟨nk, ko, kl, kc, rfl, ik⟩ := hv.see (Sz.neg hS) hL
  clear hv
  have B2 : Below W1.heap.size W1 w2 := bstep (below_drew' _) b2
  clear hHeld
  have hHeld : AllL w2 [(0, fun w' => w'.cell? ⟨g, 0, none⟩ = some (.bool na) ∧ w'.cell? ⟨g, 1, none⟩ = some (.slice ao al ac)), (1, fun w' => w'.cell? ⟨g + 1, 0, none⟩ = some (.bool nb) ∧ w'.cell? ⟨g + 1, 1, none⟩ = some (.slice bo bl bc))] := ⟨(qa.below B2).cells, (qb.below B2).cells, trivial⟩
  go_wp2_with fail
  refine hK.out _ _ (AllL.kept hHeld) ?_
  clear hK K
  (try simp only [Act.put, List.setIfInBounds_toArray, List.set_cons_zero, List.set_cons_succ])
  refine late_step 3 (by kernel_rfl) rfl (fun K hK => ?_)
  go_simp
  have hmk := r_add ((ha.below (below_drew' _)).below b2) ik
  rw [HZ.out] at hmk
  refine hmk.mono ?_
  rintro e w3 ⟨v, rfl, ⟨m, rfl, hm⟩, b3⟩
  clear hmk
  obtain ⟨mo, ml, mc, rfl⟩ := hm.sl
  have B3 : Below W1.heap.size W1 w3 := bstep B2 b3
  clear hHeld
  have hHeld : AllL w3 [(0, fun w' => w'.cell? ⟨g, 0, none⟩ = some (.bool na) ∧ w'.cell? ⟨g, 1, none⟩ = some (.slice ao al ac)), (1, fun w' => w'.cell? ⟨g + 1, 0, none⟩ = some (.bool nb) ∧ w'.cell? ⟨g + 1, 1, none⟩ = some (.slice bo bl bc))] := ⟨(qa.below B3).cells, (qb.below B3).cells, trivial⟩
  go_wp2_with fail
  refine hK.out _ _ (AllL.kept hHeld) ?_
  clear hK K
  (try simp only [Act.put, List.setIfInBounds_toArray, List.set_cons_zero, List.set_cons_succ])
  have qR2 := qR.below B3
  have HE : Hid (IEnd w (Z) (.returned (.agg #[.bool (decide (Z < 0)), .slice mo ml mc])) ((w3.setCell ⟨g + 1 + 1, 0, none⟩ (.bool (decide (Z < 0)))).setCell ⟨g + 1 + 1, 1, none⟩ (.slice mo ml mc))) := (int_done rfl (by rw [HG.out]; omega) hm (Nat.lt_of_lt_of_le hsz B2.size) (bstep hb B3)).i
  have HW : Hid (ICell ((w3.setCell ⟨g + 1 + 1, 0, none⟩ (.bool (decide (Z < 0)))).setCell ⟨g + 1 + 1, 1, none⟩ (.slice mo ml mc)) (g + 1 + 1) (decide (Z < 0)) (.slice mo ml mc)) := qR2.write _ _
  obtain ⟨y0, y1⟩ := qR2.cells
  have f0 := qR2.thaw 0
  have f1 := qR2.thaw 1
  generalize decide (Z < 0) = bb at *
  clear qR2
  clear ik
  refine late_step 4 (by kernel_rfl) rfl (fun K hK => ?_)
  go_simp
  refine hK.out _ _ ⟨Or.inl ⟨3, by kernel_rfl, by kernel_rfl⟩, Or.inl ⟨2, by kernel_rfl, by kernel_rfl⟩, trivial⟩ ?_
  clear hK K
  (try simp only [Act.put, List.setIfInBounds_toArray, List.set_cons_zero, List.set_cons_succ])
  refine late_done (by kernel_rfl) ?_ _
  clear hHeld
  clear hb hsz hm qa qb qR ha hb' b2 b3 B2 B3 
  go_wp2_with fail
  (try simp only [Exit.inBlock, Exit.then])
  exact bodyPost_ret (results_cell_row rfl _ _ (g + 1 + 1) 25 _ (0, 0) _ rfl HW.out Tryz.underlying25 rfl (by kernel_rfl)) rfl HE.out
set_option maxRecDepth 100000 in
set_option maxHeartbeats 6400000 in
theorem r_cmp {a b : Value} {x y : Int} {w : World} (ha : INum w a x) (hb' : INum w b y) {L M K : Nat} (hT : Sz x M) (hS : Sz y L) (hL1 : M ≤ K) (hL2 : L ≤ K) (hK : K + 1 ≤ 1000000) : Calls Tryz.prog 107 #[a, b] w fun e w' => e = .returned (.int .i64 (cmpZ x y)) ∧ Below w.heap.size w w' := by
  obtain ⟨c, hc⟩ : ∃ c, c = cmpZ x y := ⟨_, rfl⟩
  have HC : Hid (cmpZ (x - y) 0 = c) := by show _ = _; rw [hc]; exact cmpZ_sub x y
  rw [← hc]
  clear hc
  obtain ⟨na, ao, al, ac, xa, rfl, ua, la, za⟩ := ha
  have ha : INum w (.agg #[.bool na, .slice ao al ac]) x := ⟨_, _, _, _, _, rfl, ua, la, za⟩
  obtain ⟨nb, bo, bl, bc, xb, rfl, ub, lb, zb⟩ := hb'
  have hb' : INum w (.agg #[.bool nb, .slice bo bl bc]) y := ⟨_, _, _, _, _, rfl, ub, lb, zb⟩
  clear ua la za ub lb zb
  obtain ⟨W1, hW1⟩ : ∃ W1, W1 = (w.alloc (.cells #[.bool na, .slice ao al ac] 25)).alloc (.cells #[.bool nb, .slice bo bl bc] 25) := ⟨_, rfl⟩
  have qa : ICell W1 (w.heap.size) na (.slice ao al ac) := by rw [hW1]; exact (icell_step (icell_new _ (by simp)))
  have qb : ICell W1 (w.heap.size + 1) nb (.slice bo bl bc) := by rw [hW1]; exact (icell_new _ (by simp))
  have hb : Below w.heap.size w W1 := by rw [hW1]; exact bstep (belowA w _) (belowA _ _)
  have hsz : w.heap.size + 1 < W1.heap.size := by rw [hW1]; simp
  replace ha := ha.below hb
  replace hb' := hb'.below hb
  have HW1 : Hid (W1 = (w.alloc (.cells #[.bool na, .slice ao al ac] 25)).alloc (.cells #[.bool nb, .slice bo bl bc] 25)) := hW1
  clear hW1
  go_enter Tryz.func107, Tryz.ntmps107
  go_wp2_with fail
  rw [← HW1.out]
  clear HW1
  obtain ⟨g, hg⟩ : ∃ g, g = w.heap.size := ⟨_, rfl⟩
  rw [← hg] at qa qb hsz ⊢
  have HG : Hid (g = w.heap.size) := hg
  clear hg
  refine (r_sub ha hb' hS (by omega)).mono ?_
  rintro e w2 ⟨v, rfl, hv, b⟩
  obtain ⟨nk, ko, kl, kc, rfl, ik⟩ := hv.see ((hT.mono hL1).sub (hS.mono hL2)) hK
  clear hv
  replace ha := ha.below b
  replace hb' := hb'.below b
  replace qa := qa.below b
  replace qb := qb.below b
  replace hb := bstep hb b
  replace hsz := Nat.lt_of_lt_of_le hsz b.size
  clear b
  obtain ⟨cqa0, cqa1⟩ := qa.cells
  obtain ⟨cqb0, cqb1⟩ := qb.cells
  go_wp2_with fail
  clear cqa0 cqa1 cqb0 cqb1
  have hsg := r_sign ik
  rw [HC.out] at hsg
  refine (hsg).mono ?_
  rintro e w3 ⟨rfl, b⟩
  clear hsg
  replace ha := ha.below b
  replace hb' := hb'.below b
  replace ik := ik.below b
  replace qa := qa.below b
  replace qb := qb.below b
  replace hb := bstep hb b
  replace hsz := Nat.lt_of_lt_of_le hsz b.size
  clear b
  have HE : Hid (Below w.heap.size w w3) := hb
  clear hb hsz qa qb ha hb' ik
  go_wp2_with fail
  go_ret
  exact ⟨rfl, HE.out⟩
set_option maxRecDepth 100000 in
set_option maxHeartbeats 6400000 in
theorem r_of (n : Int) (w : World) (h1 : -9223372036854775808 ≤ n) (h2 : n ≤ 9223372036854775807) : Calls Tryz.prog 115 #[.int .i64 n] w fun e w' => IEnd w n e w' := by
  by_cases hn : 0 ≤ n
  · obtain ⟨k, hk⟩ : ∃ k : Nat, (k : Int) = n := ⟨n.toNat, by omega⟩
    have HK : Hid ((k : Int) = n) := hk
    have e1 : IntKind.u64.wrap n = (k : Int) := by rw [IntKind.wrap_u64]; omega
    have hk2 : k < 9223372036854775808 := by omega
    clear hk
    obtain ⟨W1, hW1⟩ : ∃ W1, W1 = w.alloc (.cells #[.bool false, .slice none 0 0] 25) := ⟨_, rfl⟩
    have qR : ICell W1 (w.heap.size) false (.slice none 0 0) := by rw [hW1]; exact (icell_new _ (by simp))
    have hb : Below w.heap.size w W1 := by rw [hW1]; exact belowA w _
    have hsz : w.heap.size < W1.heap.size := by rw [hW1]; simp
    have HW1 : Hid (W1 = w.alloc (.cells #[.bool false, .slice none 0 0] 25)) := hW1
    clear hW1
    go_enter Tryz.func115, Tryz.ntmps115
    go_wp2_with fail
    rw [← HW1.out]
    clear HW1
    obtain ⟨g, hg⟩ : ∃ g, g = w.heap.size := ⟨_, rfl⟩
    rw [← hg] at qR hsz ⊢
    have HG : Hid (g = w.heap.size) := hg
    clear hg
    have ho := of_ref k W1 (by omega)
    have hlk : (lim k).length ≤ 2 := lim_len_le (by show k < 4294967296 ^ 2; omega)
    refine (ho).mono ?_
    rintro e w2 ⟨v, rfl, ov, b⟩
    clear ho
    obtain ⟨so, sl, sc, rfl⟩ := ov.sl
    have us := ov.num
    clear ov
    replace qR := qR.below b
    replace hb := bstep hb b
    replace hsz := Nat.lt_of_lt_of_le hsz b.size
    clear b
    obtain ⟨cqR0, cqR1⟩ := qR.cells
    go_wp2_with fail
    clear cqR0 cqR1
    have hmk := make_ref false _ _ _ us (by omega)
    rw [val_lim, show zv false k = (k : Int) from rfl, HK.out] at hmk
    clear us
    refine (hmk).mono ?_
    rintro e w3 ⟨v, rfl, ⟨m, rfl, hm⟩, b⟩
    clear hmk
    obtain ⟨mo, ml, mc, rfl⟩ := hm.sl
    have hszz := hsz
    replace qR := qR.below b
    replace hb := bstep hb b
    replace hsz := Nat.lt_of_lt_of_le hsz b.size
    clear b
    have HE : Hid (IEnd w (n) (.returned (.agg #[.bool (decide (n < 0)), .slice mo ml mc])) ((w3.setCell ⟨g, 0, none⟩ (.bool (decide (n < 0)))).setCell ⟨g, 1, none⟩ (.slice mo ml mc))) := (int_done rfl (by rw [HG.out]; omega) hm hszz hb).i
    have HW : Hid (ICell ((w3.setCell ⟨g, 0, none⟩ (.bool (decide (n < 0)))).setCell ⟨g, 1, none⟩ (.slice mo ml mc)) (g) (decide (n < 0)) (.slice mo ml mc)) := qR.write _ _
    obtain ⟨y0, y1⟩ := qR.cells
    have f0 := qR.thaw 0
    have f1 := qR.thaw 1
    generalize decide (n < 0) = bb at *
    clear hszz
    clear hb hsz hm qR
    go_wp2_with fail
    (try simp only [Exit.inBlock, Exit.then])
    exact bodyPost_ret (results_cell_row rfl _ _ (g) 25 _ (0, 0) _ rfl HW.out Tryz.underlying25 rfl (by kernel_rfl)) rfl HE.out
  · obtain ⟨k, hk⟩ : ∃ k : Nat, (k : Int) = -(n + 1) := ⟨(-(n + 1)).toNat, by omega⟩
    have HK2 : Hid (zv true (k + 1) = n) := by show _ = _; unfold zv; simp; omega
    obtain ⟨m1, hm1⟩ : ∃ m, n + 1 = m := ⟨_, rfl⟩
    have e1 : IntKind.i64.wrap (n + 1) = m1 := by rw [IntKind.wrap_i64]; omega
    have e2 : IntKind.i64.wrap (-m1) = (k : Int) := by rw [IntKind.wrap_i64]; omega
    have e3 : IntKind.u64.wrap (k : Int) = (k : Int) := by rw [IntKind.wrap_u64]; omega
    have hk2 : k < 9223372036854775808 := by omega
    have hn2 : n < 0 := by omega
    clear hk hm1
    obtain ⟨W1, hW1⟩ : ∃ W1, W1 = w.alloc (.cells #[.bool false, .slice none 0 0] 25) := ⟨_, rfl⟩
    have qR : ICell W1 (w.heap.size) false (.slice none 0 0) := by rw [hW1]; exact (icell_new _ (by simp))
    have hb : Below w.heap.size w W1 := by rw [hW1]; exact belowA w _
    have hsz : w.heap.size < W1.heap.size := by rw [hW1]; simp
    have HW1 : Hid (W1 = w.alloc (.cells #[.bool false, .slice none 0 0] 25)) := hW1
    clear hW1
    go_enter Tryz.func115, Tryz.ntmps115
    go_wp2_with fail
    rw [← HW1.out]
    clear HW1
    obtain ⟨g, hg⟩ : ∃ g, g = w.heap.size := ⟨_, rfl⟩
    rw [← hg] at qR hsz ⊢
    have HG : Hid (g = w.heap.size) := hg
    clear hg
    have ho := of_ref k W1 (by omega)
    have hlk : (lim k).length ≤ 2 := lim_len_le (by show k < 4294967296 ^ 2; omega)
    refine (ho).mono ?_
    rintro e w2 ⟨v, rfl, ov, b⟩
    clear ho
    obtain ⟨so, sl, sc, rfl⟩ := ov.sl
    have us := ov.num
    clear ov
    replace qR := qR.below b
    replace hb := bstep hb b
    replace hsz := Nat.lt_of_lt_of_le hsz b.size
    clear b
    obtain ⟨W3, hW3⟩ : ∃ W, W = w2.alloc (.cells #[.int .u32 1] 100) := ⟨_, rfl⟩
    have uo : Num W3 (.slice (some ⟨w2.heap.size, 0, none⟩) 1 1) [1] := by rw [hW3]; exact (Own.lit (B := 0) 100 w2 #[.int .u32 1] [1] (by intro x hx; simp at hx; omega) (Nat.zero_le _) (by simp [maxLen]) (by simp [U])).num
    have b : Below w2.heap.size w2 W3 := by rw [hW3]; exact belowA _ _
    replace us := us.below (Nat.le_refl _) b
    replace qR := qR.below b
    replace hb := bstep hb b
    replace hsz := Nat.lt_of_lt_of_le hsz b.size
    clear b
    have HW3 : Hid (W3 = w2.alloc (.cells #[.int .u32 1] 100)) := hW3
    clear hW3
    go_wp2_with fail
    rw [← HW3.out]
    clear HW3
    have hs := add_ref _ _ _ _ _ us uo (by omega) (by decide)
    rw [val_lim, show val [1] = 1 from rfl] at hs
    have hlk1 : (lim (k + 1)).length ≤ 3 := lim_len_le (by show k + 1 < 4294967296 ^ 3; omega)
    clear us
    clear uo
    refine (hs).mono ?_
    rintro e w4 ⟨v, rfl, ov, b⟩
    clear hs
    obtain ⟨to, tl, tc, rfl⟩ := ov.sl
    have us := ov.num
    clear ov
    replace qR := qR.below b
    replace hb := bstep hb b
    replace hsz := Nat.lt_of_lt_of_le hsz b.size
    clear b
    obtain ⟨cqR0, cqR1⟩ := qR.cells
    go_wp2_with fail
    clear cqR0 cqR1
    have hmk := make_ref true _ _ _ us (by omega)
    rw [val_lim, HK2.out] at hmk
    clear us
    refine (hmk).mono ?_
    rintro e w5 ⟨v, rfl, ⟨m, rfl, hm⟩, b⟩
    clear hmk
    obtain ⟨mo, ml, mc, rfl⟩ := hm.sl
    have hszz := hsz
    replace qR := qR.below b
    replace hb := bstep hb b
    replace hsz := Nat.lt_of_lt_of_le hsz b.size
    clear b
    have HE : Hid (IEnd w (n) (.returned (.agg #[.bool (decide (n < 0)), .slice mo ml mc])) ((w5.setCell ⟨g, 0, none⟩ (.bool (decide (n < 0)))).setCell ⟨g, 1, none⟩ (.slice mo ml mc))) := (int_done rfl (by rw [HG.out]; omega) hm hszz hb).i
    have HW : Hid (ICell ((w5.setCell ⟨g, 0, none⟩ (.bool (decide (n < 0)))).setCell ⟨g, 1, none⟩ (.slice mo ml mc)) (g) (decide (n < 0)) (.slice mo ml mc)) := qR.write _ _
    obtain ⟨y0, y1⟩ := qR.cells
    have f0 := qR.thaw 0
    have f1 := qR.thaw 1
    generalize decide (n < 0) = bb at *
    clear hszz
    clear hb hsz hm qR
    go_wp2_with fail
    (try simp only [Exit.inBlock, Exit.then])
    exact bodyPost_ret (results_cell_row rfl _ _ (g) 25 _ (0, 0) _ rfl HW.out Tryz.underlying25 rfl (by kernel_rfl)) rfl HE.out
end Go.Proofs.YtaafijifiiiblaaGreat
