/-
  Proved here: what under, cross and lowest of package frac answer.
-/
import Derived.Test.YtaafijifiiiblaaGreatFracA
namespace Go.Proofs.YtaafijifiiiblaaGreat
open Go.RowKit

theorem nz_int2' {x : Nat} (h : 0 < x) : ((x : Int) == 0) = false := by
  have h1 : ¬ (x : Int) = 0 := by omega
  simpa using h1
set_option maxRecDepth 100000 in
set_option maxHeartbeats 6400000 in
theorem c_under {a : Value} {p : Int} {q : Nat} {w : World} (ha : RRaw w a p q) : Calls Tryz.prog 96 #[a] w fun e w' => ∃ v, e = .returned v ∧ INum w' v (und q) ∧ Below w.heap.size w w' := by
  obtain ⟨na, ao, al, ac, aO, aL, aC, ya, rfl, ia, da, la, ea⟩ := ha
  have ra : RRaw w (.agg #[.bool na, .slice ao al ac, .slice aO aL aC]) p q := ⟨_, _, _, _, _, _, _, _, rfl, ia, da, la, ea⟩
  clear ra ia
  by_cases hq : q = 0
  · have HU : Hid (und q = 1) := if_pos hq
    rw [HU.out]
    obtain ⟨W1, hW1⟩ : ∃ W1, W1 = (w.alloc (.cells #[.bool na, .slice ao al ac, .slice aO aL aC] 27)).alloc (.cells #[.bool false, .slice none 0 0] 25) := ⟨_, rfl⟩
    have qa : QCell W1 (w.heap.size) na (.slice ao al ac) (.slice aO aL aC) := by rw [hW1]; exact (qcell_step (qcell_new _ (by simp)))
    have qR : ICell W1 (w.heap.size + 1) false (.slice none 0 0) := by rw [hW1]; exact (icell_new _ (by simp))
    have hb : Below w.heap.size w W1 := by rw [hW1]; exact bstep (belowA w _) (belowA _ _)
    have hsz : w.heap.size + 1 < W1.heap.size := by rw [hW1]; simp
    replace da := da.below (Nat.le_refl _) hb
    have HW1 : Hid (W1 = (w.alloc (.cells #[.bool na, .slice ao al ac, .slice aO aL aC] 27)).alloc (.cells #[.bool false, .slice none 0 0] 25)) := hW1
    clear hW1
    go_enter Tryz.func96, Tryz.ntmps96
    go_wp2_with fail
    rw [← HW1.out]
    clear HW1
    obtain ⟨g, hg⟩ : ∃ g, g = w.heap.size := ⟨_, rfl⟩
    rw [← hg] at qa qR hsz ⊢
    have HG : Hid (g = w.heap.size) := hg
    clear hg
    have hbt := bits_any _ _ _ da (by omega)
    obtain ⟨k, hk⟩ : ∃ k, k = bl (val ya) := ⟨_, rfl⟩
    rw [← hk] at hbt
    have hk0 : k = 0 := by rw [hk, ea, hq]; rfl
    subst hk0
    clear hk
    refine hbt.mono ?_
    rintro e w2 ⟨rfl, rfl⟩
    clear hbt
    obtain ⟨cqa0, cqa1, cqa2⟩ := qa.cells
    obtain ⟨cqR0, cqR1⟩ := qR.cells
    go_wp2_with fail
    clear cqa0 cqa1 cqa2 cqR0 cqR1
    refine (c_of (n := 1) (by decide) (by decide)).mono ?_
    rintro e w3 ⟨v, rfl, ⟨m, rfl, hm⟩, b⟩
    have hszz := hsz
    obtain ⟨mo, ml, mc, rfl⟩ := hm.sl
    replace da := da.below (Nat.le_refl _) b
    replace qa := qa.below b
    replace qR := qR.below b
    replace hb := bstep hb b
    replace hsz := Nat.lt_of_lt_of_le hsz b.size
    clear b
    have qq := qR
    have HE : Hid (IEnd w (1) (.returned (.agg #[.bool false, .slice mo ml mc])) ((w3.setCell ⟨g + 1, 0, none⟩ (.bool false)).setCell ⟨g + 1, 1, none⟩ (.slice mo ml mc))) := (int_done rfl (by rw [HG.out]; omega) hm hszz (hb)).i
    have HW : Hid (ICell ((w3.setCell ⟨g + 1, 0, none⟩ (.bool false)).setCell ⟨g + 1, 1, none⟩ (.slice mo ml mc)) (g + 1) false (.slice mo ml mc)) := qq.write _ _
    obtain ⟨y0, y1⟩ := qq.cells
    have f0 := qq.thaw 0
    have f1 := qq.thaw 1
    clear qq
    clear hb hsz hszz hm qa qR da
    go_wp2_with fail
    (try simp only [Exit.inBlock, Exit.then])
    exact bodyPost_ret (results_cell_row rfl _ _ (g + 1) 25 _ (0, 0) _ rfl HW.out Tryz.underlying25 rfl (by kernel_rfl)) rfl (by obtain ⟨v, e, ho, hb⟩ := HE.out; exact ⟨v, e, ho.num Sz.one (by decide), hb⟩)
  · have HU : Hid (und q = (q : Int)) := if_neg hq
    rw [HU.out]
    have da0 := da
    obtain ⟨W1, hW1⟩ : ∃ W1, W1 = (w.alloc (.cells #[.bool na, .slice ao al ac, .slice aO aL aC] 27)).alloc (.cells #[.bool false, .slice none 0 0] 25) := ⟨_, rfl⟩
    have qa : QCell W1 (w.heap.size) na (.slice ao al ac) (.slice aO aL aC) := by rw [hW1]; exact (qcell_step (qcell_new _ (by simp)))
    have qR : ICell W1 (w.heap.size + 1) false (.slice none 0 0) := by rw [hW1]; exact (icell_new _ (by simp))
    have hb : Below w.heap.size w W1 := by rw [hW1]; exact bstep (belowA w _) (belowA _ _)
    have hsz : w.heap.size + 1 < W1.heap.size := by rw [hW1]; simp
    replace da := da.below (Nat.le_refl _) hb
    have HW1 : Hid (W1 = (w.alloc (.cells #[.bool na, .slice ao al ac, .slice aO aL aC] 27)).alloc (.cells #[.bool false, .slice none 0 0] 25)) := hW1
    clear hW1
    go_enter Tryz.func96, Tryz.ntmps96
    go_wp2_with fail
    rw [← HW1.out]
    clear HW1
    obtain ⟨g, hg⟩ : ∃ g, g = w.heap.size := ⟨_, rfl⟩
    rw [← hg] at qa qR hsz ⊢
    have HG : Hid (g = w.heap.size) := hg
    clear hg
    have hbt := bits_any _ _ _ da (by omega)
    obtain ⟨k, hk⟩ : ∃ k, k = bl (val ya) := ⟨_, rfl⟩
    rw [← hk] at hbt
    have hk0 : ((k : Int) == 0) = false := nz_int2' (by rw [hk]; exact bl_pos.2 (by rw [ea]; exact hq))
    clear hk
    refine hbt.mono ?_
    rintro e w2 ⟨rfl, rfl⟩
    clear hbt
    have HE : Hid (INum ((w2.setCell ⟨g + 1, 0, none⟩ (.bool false)).setCell ⟨g + 1, 1, none⟩ (.slice aO aL aC)) (.agg #[.bool false, .slice aO aL aC]) (q : Int) ∧ Below w.heap.size w ((w2.setCell ⟨g + 1, 0, none⟩ (.bool false)).setCell ⟨g + 1, 1, none⟩ (.slice aO aL aC))) := ⟨⟨_, _, _, _, _, rfl, da0.below (Nat.le_refl _) (iend2 hb (by rw [HG.out]; omega)), la, by rw [ea]; rfl⟩, iend2 hb (by rw [HG.out]; omega)⟩
    have HW : Hid (ICell ((w2.setCell ⟨g + 1, 0, none⟩ (.bool false)).setCell ⟨g + 1, 1, none⟩ (.slice aO aL aC)) (g + 1) false (.slice aO aL aC)) := qR.write _ _
    obtain ⟨y0, y1⟩ := qR.cells
    have f0 := qR.thaw 0
    have f1 := qR.thaw 1
    obtain ⟨cqa0, cqa1, cqa2⟩ := qa.cells
    obtain ⟨cqR0, cqR1⟩ := qR.cells
    clear hb hsz qa qR da da0
    go_wp2_with fail
    (try simp only [Exit.inBlock, Exit.then])
    exact bodyPost_ret (results_cell_row rfl _ _ (g + 1) 25 _ (0, 0) _ rfl HW.out Tryz.underlying25 rfl (by kernel_rfl)) rfl ⟨_, rfl, HE.out⟩
set_option maxRecDepth 100000 in
set_option maxHeartbeats 6400000 in
theorem c_cross {a b : Value} {p r : Int} {q k : Nat} {w : World} (ha : RRaw w a p q) (hb' : RRaw w b r k) : Calls Tryz.prog 94 #[a, b] w fun e w' => IEnd w (p * und k) e w' := by
  obtain ⟨Z, hZ⟩ : ∃ Z : Int, Z = p * und k := ⟨_, rfl⟩
  have HZ : Hid (p * und k = Z) := hZ.symm
  rw [← hZ]
  clear hZ
  obtain ⟨na, ao, al, ac, aO, aL, aC, ya, rfl, ia, da, la, ea⟩ := ha
  have ra : RRaw w (.agg #[.bool na, .slice ao al ac, .slice aO aL aC]) p q := ⟨_, _, _, _, _, _, _, _, rfl, ia, da, la, ea⟩
  obtain ⟨nb, bo, bl, bc, bO, bL, bC, yb, rfl, ib, db, lb, eb⟩ := hb'
  have rb : RRaw w (.agg #[.bool nb, .slice bo bl bc, .slice bO bL bC]) r k := ⟨_, _, _, _, _, _, _, _, rfl, ib, db, lb, eb⟩
  clear ra da la ea ib db lb eb
  obtain ⟨W1, hW1⟩ : ∃ W1, W1 = ((w.alloc (.cells #[.bool na, .slice ao al ac, .slice aO aL aC] 27)).alloc (.cells #[.bool nb, .slice bo bl bc, .slice bO bL bC] 27)).alloc (.cells #[.bool false, .slice none 0 0] 25) := ⟨_, rfl⟩
  have qa : QCell W1 (w.heap.size) na (.slice ao al ac) (.slice aO aL aC) := by rw [hW1]; exact (qcell_step (qcell_step (qcell_new _ (by simp))))
  have qb : QCell W1 (w.heap.size + 1) nb (.slice bo bl bc) (.slice bO bL bC) := by rw [hW1]; exact (qcell_step (qcell_new _ (by simp)))
  have qR : ICell W1 (w.heap.size + 1 + 1) false (.slice none 0 0) := by rw [hW1]; exact (icell_new _ (by simp))
  have hb : Below w.heap.size w W1 := by rw [hW1]; exact bstep (bstep (belowA w _) (belowA _ _)) (belowA _ _)
  have hsz : w.heap.size + 1 + 1 < W1.heap.size := by rw [hW1]; simp
  replace ia := ia.below hb
  replace rb := rb.below hb
  have HW1 : Hid (W1 = ((w.alloc (.cells #[.bool na, .slice ao al ac, .slice aO aL aC] 27)).alloc (.cells #[.bool nb, .slice bo bl bc, .slice bO bL bC] 27)).alloc (.cells #[.bool false, .slice none 0 0] 25)) := hW1
  clear hW1
  go_enter Tryz.func94, Tryz.ntmps94
  go_wp2_with fail
  rw [← HW1.out]
  clear HW1
  obtain ⟨g, hg⟩ : ∃ g, g = w.heap.size := ⟨_, rfl⟩
  rw [← hg] at qa qb qR hsz ⊢
  have HG : Hid (g = w.heap.size) := hg
  clear hg
  refine region_late [(1, fun w' => w'.cell? ⟨g, 0, none⟩ = some (.bool na) ∧ w'.cell? ⟨g, 1, none⟩ = some (.slice ao al ac)), (2, fun w' => w'.cell? ⟨g + 1, 0, none⟩ = some (.bool nb) ∧ w'.cell? ⟨g + 1, 1, none⟩ = some (.slice bo bl bc) ∧ w'.cell? ⟨g + 1, 2, none⟩ = some (.slice bO bL bC))] (by kernel_rfl) ?_
  have hHeld : AllL W1.drew [(1, fun w' => w'.cell? ⟨g, 0, none⟩ = some (.bool na) ∧ w'.cell? ⟨g, 1, none⟩ = some (.slice ao al ac)), (2, fun w' => w'.cell? ⟨g + 1, 0, none⟩ = some (.bool nb) ∧ w'.cell? ⟨g + 1, 1, none⟩ = some (.slice bo bl bc) ∧ w'.cell? ⟨g + 1, 2, none⟩ = some (.slice bO bL bC))] := ⟨⟨(show QCell W1.drew (g) na (.slice ao al ac) (.slice aO aL aC) from qa).cells.1, (show QCell W1.drew (g) na (.slice ao al ac) (.slice aO aL aC) from qa).cells.2.1⟩, (show QCell W1.drew (g + 1) nb (.slice bo bl bc) (.slice bO bL bC) from qb).cells, trivial⟩
  refine late_free 0 (v := .pointer (some ⟨g, 0, none⟩)) rfl (by kernel_rfl) (by kernel_rfl) (by kernel_rfl) (by kernel_rfl) (by kernel_rfl) (by kernel_rfl) (fun _ _ _ h => h) (Or.inl ⟨by rfl, ?_⟩) hHeld ?_
  · (intro u _; go_simp)
  (try simp only [Act.put, List.setIfInBounds_toArray, List.set_cons_zero, List.set_cons_succ])
  refine late_take 1 (v := .agg #[.bool na, .slice ao al ac]) rfl (by kernel_rfl) (List.Mem.head _) (by kernel_rfl) (by kernel_rfl) (by kernel_rfl) (by kernel_rfl) (fun _ _ _ h => h) (Or.inl ⟨by rfl, ?_⟩) hHeld ?_
  · (intro u hu; (try dsimp only at hu); go_split_ands; go_simp)
  (try simp only [Act.put, List.setIfInBounds_toArray, List.set_cons_zero, List.set_cons_succ])
  refine late_take 2 (v := .agg #[.bool nb, .slice bo bl bc, .slice bO bL bC]) rfl (by kernel_rfl) (List.Mem.tail _ (List.Mem.head _)) (by kernel_rfl) (by kernel_rfl) (by kernel_rfl) (by kernel_rfl) (fun _ _ _ h => h) (Or.inl ⟨by rfl, ?_⟩) hHeld ?_
  · (intro u hu; (try dsimp only at hu); go_split_ands; go_simp)
  (try simp only [Act.put, List.setIfInBounds_toArray, List.set_cons_zero, List.set_cons_succ])
  refine late_step 3 (by kernel_rfl) rfl (fun K hK => ?_)
  go_simp
  refine (c_under (rb.below (below_drew' _))).mono ?_
  rintro e w2 ⟨v, rfl, hv, b2⟩
  obtain ⟨nu, uo, ul, uc, rfl, iu⟩ := hv.see
  clear hv
  have B2 : Below W1.heap.size W1 w2 := bstep (below_drew' _) b2
  clear hHeld
  have hHeld : AllL w2 [(1, fun w' => w'.cell? ⟨g, 0, none⟩ = some (.bool na) ∧ w'.cell? ⟨g, 1, none⟩ = some (.slice ao al ac)), (2, fun w' => w'.cell? ⟨g + 1, 0, none⟩ = some (.bool nb) ∧ w'.cell? ⟨g + 1, 1, none⟩ = some (.slice bo bl bc) ∧ w'.cell? ⟨g + 1, 2, none⟩ = some (.slice bO bL bC))] := ⟨⟨(qa.below B2).cells.1, (qa.below B2).cells.2.1⟩, (qb.below B2).cells, trivial⟩
  go_wp2_with fail
  refine hK.out _ _ (AllL.kept hHeld) ?_
  clear hK K
  (try simp only [Act.put, List.setIfInBounds_toArray, List.set_cons_zero, List.set_cons_succ])
  refine late_step 4 (by kernel_rfl) rfl (fun K hK => ?_)
  go_simp
  have hmk := c_mul ((ia.below (below_drew' _)).below b2) iu
  rw [HZ.out] at hmk
  refine hmk.mono ?_
  rintro e w3 ⟨v, rfl, ⟨m, rfl, hm⟩, b3⟩
  clear hmk
  obtain ⟨mo, ml, mc, rfl⟩ := hm.sl
  have B3 : Below W1.heap.size W1 w3 := bstep B2 b3
  clear hHeld
  have hHeld : AllL w3 [(1, fun w' => w'.cell? ⟨g, 0, none⟩ = some (.bool na) ∧ w'.cell? ⟨g, 1, none⟩ = some (.slice ao al ac)), (2, fun w' => w'.cell? ⟨g + 1, 0, none⟩ = some (.bool nb) ∧ w'.cell? ⟨g + 1, 1, none⟩ = some (.slice bo bl bc) ∧ w'.cell? ⟨g + 1, 2, none⟩ = some (.slice bO bL bC))] := ⟨⟨(qa.below B3).cells.1, (qa.below B3).cells.2.1⟩, (qb.below B3).cells, trivial⟩
  go_wp2_with fail
  refine hK.out _ _ (AllL.kept hHeld) ?_
  clear hK K
  (try simp only [Act.put, List.setIfInBounds_toArray, List.set_cons_zero, List.set_cons_succ])
  have qq := qR.below B3
  have HE : Hid (IEnd w (Z) (.returned (.agg #[.bool (decide (Z < 0)), .slice mo ml mc])) ((w3.setCell ⟨g + 1 + 1, 0, none⟩ (.bool (decide (Z < 0)))).setCell ⟨g + 1 + 1, 1, none⟩ (.slice mo ml mc))) := (int_done rfl (by rw [HG.out]; omega) hm (Nat.lt_of_lt_of_le hsz B2.size) (bstep hb B3)).i
  have HW : Hid (ICell ((w3.setCell ⟨g + 1 + 1, 0, none⟩ (.bool (decide (Z < 0)))).setCell ⟨g + 1 + 1, 1, none⟩ (.slice mo ml mc)) (g + 1 + 1) (decide (Z < 0)) (.slice mo ml mc)) := qq.write _ _
  obtain ⟨y0, y1⟩ := qq.cells
  have f0 := qq.thaw 0
  have f1 := qq.thaw 1
  generalize decide (Z < 0) = bb at *
  clear qq
  clear iu
  refine late_step 5 (by kernel_rfl) rfl (fun K hK => ?_)
  go_simp
  refine hK.out _ _ ⟨Or.inl ⟨4, by kernel_rfl, by kernel_rfl⟩, Or.inl ⟨3, by kernel_rfl, by kernel_rfl⟩, trivial⟩ ?_
  clear hK K
  (try simp only [Act.put, List.setIfInBounds_toArray, List.set_cons_zero, List.set_cons_succ])
  refine late_done (by kernel_rfl) ?_ _
  clear hHeld
  clear hb hsz hm qa qb qR ia rb b2 b3 B2 B3 
  go_wp2_with fail
  (try simp only [Exit.inBlock, Exit.then])
  exact bodyPost_ret (results_cell_row rfl _ _ (g + 1 + 1) 25 _ (0, 0) _ rfl HW.out Tryz.underlying25 rfl (by kernel_rfl)) rfl HE.out
theorem own_ne {B e g : Nat} {w : World} {v : Value} {xs : List Nat} (ho : Own B e w v xs) (hg : g < B) : v.ownBlock = none ∨ v.ownBlock ≠ some g := by
  cases hm : v.ownBlock with
  | none => exact Or.inl rfl
  | some k =>
    right
    intro e
    rw [Option.some.injEq] at e
    have := (ho.block k hm).1
    omega
set_option maxRecDepth 100000 in
set_option maxHeartbeats 6400000 in
theorem c_lowest {a b : Value} {p q : Int} {w : World} (ha : INum w a p) (hb' : INum w b q) (hq : q ≠ 0) : Calls Tryz.prog 90 #[a, b] w fun e w' => REnd w (Rat.divInt p q) e w' := by
  obtain ⟨r, hr⟩ : ∃ r, r = Rat.divInt p q := ⟨_, rfl⟩
  rw [← hr]
  obtain ⟨na, ao, al, ac, xa, rfl, ua, la, za⟩ := ha
  have ha : INum w (.agg #[.bool na, .slice ao al ac]) p := ⟨_, _, _, _, _, rfl, ua, la, za⟩
  obtain ⟨nb, bo, bl, bc, xb, rfl, ub, lb, zb⟩ := hb'
  have hb' : INum w (.agg #[.bool nb, .slice bo bl bc]) q := ⟨_, _, _, _, _, rfl, ub, lb, zb⟩
  have hvb : val xb ≠ 0 := by intro h; apply hq; rw [← zb, h]; cases nb <;> rfl
  obtain ⟨G, hG⟩ : ∃ G, G = Nat.gcd (val xa) (val xb) := ⟨_, rfl⟩
  have hG0 : 0 < G := by rw [hG]; exact Nat.gcd_pos_of_pos_right _ (Nat.pos_of_ne_zero hvb)
  have lG : (lim G).length ≤ 1000000 := by have h1 := lim_len_le (n := G) (Nat.lt_of_le_of_lt (by rw [hG]; exact Nat.gcd_le_right _ (Nat.pos_of_ne_zero hvb)) (val_lt ub.1)); omega
  have hnb : nb = decide (q < 0) := by have h := zv_dec (n := nb) (k := val xb) (by rw [zb]; exact hq); rw [zb] at h; exact h
  have hgg : G = Nat.gcd p.natAbs q.natAbs := by rw [hG, ← za, ← zb, zv_abs, zv_abs]
  have HT : Hid (p.tdiv (zv nb G) = r.num) := by show _ = _; rw [hr, hnb, hgg]; exact low_num hq
  have HD : Hid (q.tdiv (zv nb G) = (r.den : Int)) := by show _ = _; rw [hr, hnb, hgg]; exact low_den hq
  have HGC : Hid (Nat.gcd (val xa) (val xb) = G) := hG.symm
  clear hr hvb hG hG0 hnb hgg za zb
  obtain ⟨W1, hW1⟩ : ∃ W1, W1 = ((w.alloc (.cells #[.bool na, .slice ao al ac] 25)).alloc (.cells #[.bool nb, .slice bo bl bc] 25)).alloc (.cells #[.bool false, .slice none 0 0, .slice none 0 0] 27) := ⟨_, rfl⟩
  have qa : ICell W1 (w.heap.size) na (.slice ao al ac) := by rw [hW1]; exact (icell_step (icell_step (icell_new _ (by simp))))
  have qb : ICell W1 (w.heap.size + 1) nb (.slice bo bl bc) := by rw [hW1]; exact (icell_step (icell_new _ (by simp)))
  have qR : QCell W1 (w.heap.size + 1 + 1) false (.slice none 0 0) (.slice none 0 0) := by rw [hW1]; exact (qcell_new _ (by simp))
  have hb : Below w.heap.size w W1 := by rw [hW1]; exact bstep (bstep (belowA w _) (belowA _ _)) (belowA _ _)
  have hsz : w.heap.size + 1 + 1 < W1.heap.size := by rw [hW1]; simp
  replace ub := ub.below (Nat.le_refl _) hb
  replace ua := ua.below (Nat.le_refl _) hb
  replace ha := ha.below hb
  replace hb' := hb'.below hb
  have HW1 : Hid (W1 = ((w.alloc (.cells #[.bool na, .slice ao al ac] 25)).alloc (.cells #[.bool nb, .slice bo bl bc] 25)).alloc (.cells #[.bool false, .slice none 0 0, .slice none 0 0] 27)) := hW1
  clear hW1
  go_enter Tryz.func90, Tryz.ntmps90
  go_wp2_with fail
  rw [← HW1.out]
  clear HW1
  obtain ⟨g, hg⟩ : ∃ g, g = w.heap.size := ⟨_, rfl⟩
  rw [← hg] at qa qb qR hsz ⊢
  have HG : Hid (g = w.heap.size) := hg
  clear hg
  refine region_late [(1, fun w' => w'.cell? ⟨g + 1, 0, none⟩ = some (.bool nb)), (3, fun w' => w'.cell? ⟨g, 1, none⟩ = some (.slice ao al ac)), (5, fun w' => w'.cell? ⟨g + 1, 1, none⟩ = some (.slice bo bl bc))] (by kernel_rfl) ?_
  have hHeld : AllL W1.drew [(1, fun w' => w'.cell? ⟨g + 1, 0, none⟩ = some (.bool nb)), (3, fun w' => w'.cell? ⟨g, 1, none⟩ = some (.slice ao al ac)), (5, fun w' => w'.cell? ⟨g + 1, 1, none⟩ = some (.slice bo bl bc))] := ⟨(show ICell W1.drew (g + 1) nb (.slice bo bl bc) from qb).cells.1, (show ICell W1.drew (g) na (.slice ao al ac) from qa).cells.2, (show ICell W1.drew (g + 1) nb (.slice bo bl bc) from qb).cells.2, trivial⟩
  refine late_free 0 (v := .pointer (some ⟨g + 1, 0, none⟩)) rfl (by kernel_rfl) (by kernel_rfl) (by kernel_rfl) (by kernel_rfl) (by kernel_rfl) (by kernel_rfl) (fun _ _ _ h => h) (Or.inl ⟨by rfl, ?_⟩) hHeld ?_
  · (intro u _; go_simp)
  (try simp only [Act.put, List.setIfInBounds_toArray, List.set_cons_zero, List.set_cons_succ])
  refine late_take 1 (v := .bool nb) rfl (by kernel_rfl) (List.Mem.head _) (by kernel_rfl) (by kernel_rfl) (by kernel_rfl) (by kernel_rfl) (fun _ _ _ h => h) (Or.inl ⟨by rfl, ?_⟩) hHeld ?_
  · (intro u hu; (try dsimp only at hu); go_split_ands; go_simp)
  (try simp only [Act.put, List.setIfInBounds_toArray, List.set_cons_zero, List.set_cons_succ])
  refine late_free 2 (v := .pointer (some ⟨g, 1, none⟩)) rfl (by kernel_rfl) (by kernel_rfl) (by kernel_rfl) (by kernel_rfl) (by kernel_rfl) (by kernel_rfl) (fun _ _ _ h => h) (Or.inl ⟨by rfl, ?_⟩) hHeld ?_
  · (intro u _; go_simp)
  (try simp only [Act.put, List.setIfInBounds_toArray, List.set_cons_zero, List.set_cons_succ])
  refine late_take 3 (v := .slice ao al ac) rfl (by kernel_rfl) (List.Mem.tail _ (List.Mem.head _)) (by kernel_rfl) (by kernel_rfl) (by kernel_rfl) (by kernel_rfl) (fun _ _ _ h => h) (Or.inl ⟨by rfl, ?_⟩) hHeld ?_
  · (intro u hu; (try dsimp only at hu); go_split_ands; go_simp)
  (try simp only [Act.put, List.setIfInBounds_toArray, List.set_cons_zero, List.set_cons_succ])
  refine late_free 4 (v := .pointer (some ⟨g + 1, 1, none⟩)) rfl (by kernel_rfl) (by kernel_rfl) (by kernel_rfl) (by kernel_rfl) (by kernel_rfl) (by kernel_rfl) (fun _ _ _ h => h) (Or.inl ⟨by rfl, ?_⟩) hHeld ?_
  · (intro u _; go_simp)
  (try simp only [Act.put, List.setIfInBounds_toArray, List.set_cons_zero, List.set_cons_succ])
  refine late_take 5 (v := .slice bo bl bc) rfl (by kernel_rfl) (List.Mem.tail _ (List.Mem.tail _ (List.Mem.head _))) (by kernel_rfl) (by kernel_rfl) (by kernel_rfl) (by kernel_rfl) (fun _ _ _ h => h) (Or.inl ⟨by rfl, ?_⟩) hHeld ?_
  · (intro u hu; (try dsimp only at hu); go_split_ands; go_simp)
  (try simp only [Act.put, List.setIfInBounds_toArray, List.set_cons_zero, List.set_cons_succ])
  refine late_two 6 8 (by kernel_rfl) rfl rfl (fun K hK => ?_) (fun K hK => ?_)
  · go_simp
    have hgc := gcd_any _ _ _ _ _ (ua.below (Nat.le_refl _) (below_drew' _)) (ub.below (Nat.le_refl _) (below_drew' _)) (by omega) (by omega)
    rw [HGC.out] at hgc
    refine hgc.mono ?_
    rintro e w2 ⟨v, rfl, hv, b2⟩
    clear hgc
    obtain ⟨go, gl, gc, rfl⟩ := hv.sl
    have B2 : Below W1.heap.size W1 w2 := bstep (below_drew' _) b2
    clear hHeld
    have hHeld : AllL w2 [(1, fun w' => w'.cell? ⟨g + 1, 0, none⟩ = some (.bool nb)), (3, fun w' => w'.cell? ⟨g, 1, none⟩ = some (.slice ao al ac)), (5, fun w' => w'.cell? ⟨g + 1, 1, none⟩ = some (.slice bo bl bc))] := ⟨(qb.below B2).cells.1, (qa.below B2).cells.2, (qb.below B2).cells.2, trivial⟩
    go_wp2_with fail
    refine hK.out _ _ (AllL.kept hHeld) ?_
    clear hK K
    (try simp only [Act.put, List.setIfInBounds_toArray, List.set_cons_zero, List.set_cons_succ])
    refine late_two 7 8 (by kernel_rfl) rfl rfl (fun K hK => ?_) (fun K hK => ?_)
    · go_simp
      refine hK.out _ _ ⟨Or.inl ⟨7, by kernel_rfl, by kernel_rfl⟩, Or.inl ⟨6, by kernel_rfl, by kernel_rfl⟩, Or.inl ⟨6, by kernel_rfl, by kernel_rfl⟩, trivial⟩ ?_
      clear hK K
      (try simp only [Act.put, List.setIfInBounds_toArray, List.set_cons_zero, List.set_cons_succ])
      refine late_step 8 (by kernel_rfl) rfl (fun K hK => ?_)
      go_simp
      refine hK.out _ _ ⟨Or.inl ⟨7, by kernel_rfl, by kernel_rfl⟩, Or.inl ⟨6, by kernel_rfl, by kernel_rfl⟩, Or.inl ⟨6, by kernel_rfl, by kernel_rfl⟩, trivial⟩ ?_
      clear hK K
      (try simp only [Act.put, List.setIfInBounds_toArray, List.set_cons_zero, List.set_cons_succ])
      refine late_step 9 (by kernel_rfl) rfl (fun K hK => ?_)
      go_simp
      refine hK.out _ _ ⟨Or.inl ⟨7, by kernel_rfl, by kernel_rfl⟩, Or.inl ⟨6, by kernel_rfl, by kernel_rfl⟩, Or.inl ⟨6, by kernel_rfl, by kernel_rfl⟩, trivial⟩ ?_
      clear hK K
      (try simp only [Act.put, List.setIfInBounds_toArray, List.set_cons_zero, List.set_cons_succ])
      refine late_done (by kernel_rfl) ?_ _
      clear hHeld
      have b := B2
      have ug := hv.num
      clear B2 b2 ua ub hv
      replace ha := ha.below b
      replace hb' := hb'.below b
      replace qa := qa.below b
      replace qb := qb.below b
      replace qR := qR.below b
      replace hb := bstep hb b
      replace hsz := Nat.lt_of_lt_of_le hsz b.size
      clear b
      obtain ⟨W5, hW5⟩ : ∃ W, W = w2.alloc (.cells #[.bool nb, .slice go gl gc] 25) := ⟨_, rfl⟩
      have qC : ICell W5 (w2.heap.size) nb (.slice go gl gc) := by rw [hW5]; exact (icell_new _ rfl)
      have b : Below w2.heap.size w2 W5 := by rw [hW5]; exact belowA _ _
      replace ha := ha.below b
      replace hb' := hb'.below b
      replace ug := ug.below (Nat.le_refl _) b
      replace qa := qa.below b
      replace qb := qb.below b
      replace qR := qR.below b
      replace hb := bstep hb b
      replace hsz := Nat.lt_of_lt_of_le hsz b.size
      clear b
      have rqa0 : (w2.alloc (.cells #[.bool nb, .slice go gl gc] 25)).cell? ⟨g, 0, none⟩ = some (.bool na) := by rw [← hW5]; exact qa.cells.1
      have rqa1 : (w2.alloc (.cells #[.bool nb, .slice go gl gc] 25)).cell? ⟨g, 1, none⟩ = some (.slice ao al ac) := by rw [← hW5]; exact qa.cells.2
      have rqb0 : (w2.alloc (.cells #[.bool nb, .slice go gl gc] 25)).cell? ⟨g + 1, 0, none⟩ = some (.bool nb) := by rw [← hW5]; exact qb.cells.1
      have rqb1 : (w2.alloc (.cells #[.bool nb, .slice go gl gc] 25)).cell? ⟨g + 1, 1, none⟩ = some (.slice bo bl bc) := by rw [← hW5]; exact qb.cells.2
      have rqR0 : (w2.alloc (.cells #[.bool nb, .slice go gl gc] 25)).cell? ⟨g + 1 + 1, 0, none⟩ = some (.bool false) := by rw [← hW5]; exact qR.cells.1
      have rqR1 : (w2.alloc (.cells #[.bool nb, .slice go gl gc] 25)).cell? ⟨g + 1 + 1, 1, none⟩ = some (.slice none 0 0) := by rw [← hW5]; exact qR.cells.2.1
      have rqR2 : (w2.alloc (.cells #[.bool nb, .slice go gl gc] 25)).cell? ⟨g + 1 + 1, 2, none⟩ = some (.slice none 0 0) := by rw [← hW5]; exact qR.cells.2.2
      have rqC0 : (w2.alloc (.cells #[.bool nb, .slice go gl gc] 25)).cell? ⟨w2.heap.size, 0, none⟩ = some (.bool nb) := by rw [← hW5]; exact qC.cells.1
      have rqC1 : (w2.alloc (.cells #[.bool nb, .slice go gl gc] 25)).cell? ⟨w2.heap.size, 1, none⟩ = some (.slice go gl gc) := by rw [← hW5]; exact qC.cells.2
      obtain ⟨v5, hv5⟩ : ∃ v, v = w2.heap.size := ⟨_, rfl⟩
      rw [← hv5] at qC
      have HW5 : Hid (W5 = w2.alloc (.cells #[.bool nb, .slice go gl gc] 25)) := hW5
      have Hv5 : Hid (v5 = w2.heap.size) := hv5
      clear hW5 hv5
      go_wp2_with fail
      rw [← HW5.out, ← Hv5.out]
      clear HW5 Hv5 rqa0 rqa1 rqb0 rqb1 rqR0 rqR1 rqR2 rqC0 rqC1
      have ic : INum W5 (.agg #[.bool nb, .slice go gl gc]) (zv nb G) := ⟨_, _, _, _, _, rfl, ug, lG, by rw [val_lim]⟩
      have hordA : W5.heap.size ≤ W5.heap.size := Nat.le_refl _
      have hq1 := c_quo ha ic
      rw [HT.out] at hq1
      generalize errZ (zv nb G).natAbs = er at hq1
      have hszz := hsz
      refine (hq1).mono ?_
      rintro e w6 ⟨mq, mr, rfl, hm, o2, _, b⟩
      clear hq1
      obtain ⟨mo, ml, mc, rfl⟩ := hm.sl
      obtain ⟨uo, ul, uc, rfl⟩ := o2.sl
      obtain ⟨bb, hbb⟩ : ∃ b, b = decide (r.num < 0) := ⟨_, rfl⟩
      have HBB : Hid (bb = decide (r.num < 0)) := hbb
      rw [← hbb]
      generalize decide (rz p (zv nb G) < 0) = tb
      clear o2 hbb
      replace ha := ha.below b
      replace hb' := hb'.below b
      replace ug := ug.below (Nat.le_refl _) b
      replace ic := ic.below b
      replace qa := qa.below b
      replace qb := qb.below b
      replace qR := qR.below b
      replace qC := qC.below b
      replace hb := bstep hb b
      replace hsz := Nat.lt_of_lt_of_le hsz b.size
      replace hordA := Nat.le_trans hordA b.size
      clear b
      obtain ⟨W7, hW7⟩ : ∃ W, W = (w6.alloc (.cells #[.bool bb, .slice mo ml mc] 25)).alloc (.cells #[.bool tb, .slice uo ul uc] 25) := ⟨_, rfl⟩
      have qT : ICell W7 (w6.heap.size) bb (.slice mo ml mc) := by rw [hW7]; exact (icell_step (icell_new _ rfl))
      have qU : ICell W7 (w6.heap.size + 1) tb (.slice uo ul uc) := by rw [hW7]; exact (icell_new _ (by simp))
      have b : Below w6.heap.size w6 W7 := by rw [hW7]; exact bstep (belowA _ _) (belowA _ _)
      replace ha := ha.below b
      replace hb' := hb'.below b
      replace ug := ug.below (Nat.le_refl _) b
      replace ic := ic.below b
      replace hm := hm.below b
      replace qa := qa.below b
      replace qb := qb.below b
      replace qR := qR.below b
      replace qC := qC.below b
      replace hb := bstep hb b
      replace hsz := Nat.lt_of_lt_of_le hsz b.size
      replace hordA := Nat.le_trans hordA b.size
      clear b
      have rqa0 : ((w6.alloc (.cells #[.bool bb, .slice mo ml mc] 25)).alloc (.cells #[.bool tb, .slice uo ul uc] 25)).cell? ⟨g, 0, none⟩ = some (.bool na) := by rw [← hW7]; exact qa.cells.1
      have rqa1 : ((w6.alloc (.cells #[.bool bb, .slice mo ml mc] 25)).alloc (.cells #[.bool tb, .slice uo ul uc] 25)).cell? ⟨g, 1, none⟩ = some (.slice ao al ac) := by rw [← hW7]; exact qa.cells.2
      have rqb0 : ((w6.alloc (.cells #[.bool bb, .slice mo ml mc] 25)).alloc (.cells #[.bool tb, .slice uo ul uc] 25)).cell? ⟨g + 1, 0, none⟩ = some (.bool nb) := by rw [← hW7]; exact qb.cells.1
      have rqb1 : ((w6.alloc (.cells #[.bool bb, .slice mo ml mc] 25)).alloc (.cells #[.bool tb, .slice uo ul uc] 25)).cell? ⟨g + 1, 1, none⟩ = some (.slice bo bl bc) := by rw [← hW7]; exact qb.cells.2
      have rqR0 : ((w6.alloc (.cells #[.bool bb, .slice mo ml mc] 25)).alloc (.cells #[.bool tb, .slice uo ul uc] 25)).cell? ⟨g + 1 + 1, 0, none⟩ = some (.bool false) := by rw [← hW7]; exact qR.cells.1
      have rqR1 : ((w6.alloc (.cells #[.bool bb, .slice mo ml mc] 25)).alloc (.cells #[.bool tb, .slice uo ul uc] 25)).cell? ⟨g + 1 + 1, 1, none⟩ = some (.slice none 0 0) := by rw [← hW7]; exact qR.cells.2.1
      have rqR2 : ((w6.alloc (.cells #[.bool bb, .slice mo ml mc] 25)).alloc (.cells #[.bool tb, .slice uo ul uc] 25)).cell? ⟨g + 1 + 1, 2, none⟩ = some (.slice none 0 0) := by rw [← hW7]; exact qR.cells.2.2
      have rqC0 : ((w6.alloc (.cells #[.bool bb, .slice mo ml mc] 25)).alloc (.cells #[.bool tb, .slice uo ul uc] 25)).cell? ⟨v5, 0, none⟩ = some (.bool nb) := by rw [← hW7]; exact qC.cells.1
      have rqC1 : ((w6.alloc (.cells #[.bool bb, .slice mo ml mc] 25)).alloc (.cells #[.bool tb, .slice uo ul uc] 25)).cell? ⟨v5, 1, none⟩ = some (.slice go gl gc) := by rw [← hW7]; exact qC.cells.2
      have rqT0 : ((w6.alloc (.cells #[.bool bb, .slice mo ml mc] 25)).alloc (.cells #[.bool tb, .slice uo ul uc] 25)).cell? ⟨w6.heap.size, 0, none⟩ = some (.bool bb) := by rw [← hW7]; exact qT.cells.1
      have rqT1 : ((w6.alloc (.cells #[.bool bb, .slice mo ml mc] 25)).alloc (.cells #[.bool tb, .slice uo ul uc] 25)).cell? ⟨w6.heap.size, 1, none⟩ = some (.slice mo ml mc) := by rw [← hW7]; exact qT.cells.2
      have rqU0 : ((w6.alloc (.cells #[.bool bb, .slice mo ml mc] 25)).alloc (.cells #[.bool tb, .slice uo ul uc] 25)).cell? ⟨w6.heap.size + 1, 0, none⟩ = some (.bool tb) := by rw [← hW7]; exact qU.cells.1
      have rqU1 : ((w6.alloc (.cells #[.bool bb, .slice mo ml mc] 25)).alloc (.cells #[.bool tb, .slice uo ul uc] 25)).cell? ⟨w6.heap.size + 1, 1, none⟩ = some (.slice uo ul uc) := by rw [← hW7]; exact qU.cells.2
      obtain ⟨v7, hv7⟩ : ∃ v, v = w6.heap.size := ⟨_, rfl⟩
      rw [← hv7] at qT qU
      have HW7 : Hid (W7 = (w6.alloc (.cells #[.bool bb, .slice mo ml mc] 25)).alloc (.cells #[.bool tb, .slice uo ul uc] 25)) := hW7
      have Hv7 : Hid (v7 = w6.heap.size) := hv7
      clear hW7 hv7
      go_wp2_with fail
      rw [← HW7.out, ← Hv7.out]
      clear HW7 Hv7 rqa0 rqa1 rqb0 rqb1 rqR0 rqR1 rqR2 rqC0 rqC1 rqT0 rqT1 rqU0 rqU1
      have hq1 := c_quo hb' ic
      rw [HD.out] at hq1
      generalize errZ (zv nb G).natAbs = er2 at hq1
      have hord : W5.heap.size ≤ W7.heap.size := hordA
      have HB2 := hm
      refine (hq1).mono ?_
      rintro e w8 ⟨mq, mr, rfl, hd, o2, _, b⟩
      clear hq1
      obtain ⟨mO, mL, mC, rfl⟩ := hd.sl
      obtain ⟨vo, vl, vc, rfl⟩ := o2.sl
      generalize decide ((r.den : Int) < 0) = vb
      generalize decide (rz q (zv nb G) < 0) = xb_
      rw [Int.natAbs_natCast] at hd
      have hap := apart_later HB2 hd (Nat.le_refl _)
      have HSB : Hid (W7.heap.size ≤ W7.heap.size) := Nat.le_trans (Nat.le_refl _) (Nat.le_refl _)
      clear o2 HB2 HSB
      replace ha := ha.below b
      replace hb' := hb'.below b
      replace ug := ug.below (Nat.le_refl _) b
      replace ic := ic.below b
      replace hm := hm.below b
      replace qa := qa.below b
      replace qb := qb.below b
      replace qR := qR.below b
      replace qC := qC.below b
      replace qT := qT.below b
      replace qU := qU.below b
      replace hb := bstep hb b
      replace hsz := Nat.lt_of_lt_of_le hsz b.size
      clear b
      obtain ⟨W, hW⟩ : ∃ W, W = (w8.alloc (.cells #[.bool vb, .slice mO mL mC] 25)).alloc (.cells #[.bool xb_, .slice vo vl vc] 25) := ⟨_, rfl⟩
      have qV : ICell W w8.heap.size vb (.slice mO mL mC) := by rw [hW]; exact icell_step (icell_new _ rfl)
      have b : Below w8.heap.size w8 W := by rw [hW]; exact bstep (belowA _ _) (belowA _ _)
      replace ha := ha.below b
      replace hb' := hb'.below b
      replace ug := ug.below (Nat.le_refl _) b
      replace ic := ic.below b
      replace hm := hm.below b
      replace hd := hd.below b
      replace qa := qa.below b
      replace qb := qb.below b
      replace qR := qR.below b
      replace qC := qC.below b
      replace qT := qT.below b
      replace qU := qU.below b
      replace hb := bstep hb b
      replace hsz := Nat.lt_of_lt_of_le hsz b.size
      clear b
      have qq := qR
      have hd2 := hd.mono hord
      have HE : Hid (REnd w r (.returned (.agg #[.bool bb, .slice mo ml mc, .slice mO mL mC])) (((W.setCell ⟨g + 1 + 1, 0, none⟩ (.bool bb)).setCell ⟨g + 1 + 1, 1, none⟩ (.slice mo ml mc)).setCell ⟨g + 1 + 1, 2, none⟩ (.slice mO mL mC))) := rat_done HBB.out (by rw [HG.out]; omega) hm hd2 hap hszz (hb)
      have HW : Hid (QCell (((W.setCell ⟨g + 1 + 1, 0, none⟩ (.bool bb)).setCell ⟨g + 1 + 1, 1, none⟩ (.slice mo ml mc)).setCell ⟨g + 1 + 1, 2, none⟩ (.slice mO mL mC)) (g + 1 + 1) bb (.slice mo ml mc) (.slice mO mL mC)) := qq.write _ _ _
      obtain ⟨y0, y1, y2⟩ := qq.cells
      have f0 := qq.thaw 0
      have f1 := qq.thaw 1
      have f2 := qq.thaw 2
      clear qq hap
      obtain ⟨cT0, cT1⟩ := qT.cells
      obtain ⟨cV0, cV1⟩ := qV.cells
      clear hb hsz hszz hd2 qV qa qb qR qC qT qU ha hb' ug ic hm hd
      subst hW
      go_wp2_with fail
      (try simp only [Exit.inBlock, Exit.then])
      exact bodyPost_ret (results_cell_row rfl _ _ (g + 1 + 1) 27 _ (0, 0) _ rfl HW.out Tryz.underlying27 rfl (by kernel_rfl)) rfl HE.out
    · go_simp
      refine hK.out _ _ ⟨Or.inr (icell_step (qb.below B2)).cells.1, Or.inl ⟨6, by kernel_rfl, by kernel_rfl⟩, Or.inl ⟨6, by kernel_rfl, by kernel_rfl⟩, trivial⟩ ?_
      clear hK K
      (try simp only [Act.put, List.setIfInBounds_toArray, List.set_cons_zero, List.set_cons_succ])
      refine late_step 7 (by kernel_rfl) rfl (fun K hK => ?_)
      go_simp
      refine hK.out _ _ ⟨Or.inl ⟨7, by kernel_rfl, by kernel_rfl⟩, Or.inl ⟨6, by kernel_rfl, by kernel_rfl⟩, Or.inl ⟨6, by kernel_rfl, by kernel_rfl⟩, trivial⟩ ?_
      clear hK K
      (try simp only [Act.put, List.setIfInBounds_toArray, List.set_cons_zero, List.set_cons_succ])
      refine late_step 9 (by kernel_rfl) rfl (fun K hK => ?_)
      go_simp
      refine hK.out _ _ ⟨Or.inl ⟨7, by kernel_rfl, by kernel_rfl⟩, Or.inl ⟨6, by kernel_rfl, by kernel_rfl⟩, Or.inl ⟨6, by kernel_rfl, by kernel_rfl⟩, trivial⟩ ?_
      clear hK K
      (try simp only [Act.put, List.setIfInBounds_toArray, List.set_cons_zero, List.set_cons_succ])
      refine late_done (by kernel_rfl) ?_ _
      clear hHeld
      have b := B2
      have ug := hv.num
      clear B2 b2 ua ub hv
      replace ha := ha.below b
      replace hb' := hb'.below b
      replace qa := qa.below b
      replace qb := qb.below b
      replace qR := qR.below b
      replace hb := bstep hb b
      replace hsz := Nat.lt_of_lt_of_le hsz b.size
      clear b
      obtain ⟨W5, hW5⟩ : ∃ W, W = w2.alloc (.cells #[.bool nb, .slice go gl gc] 25) := ⟨_, rfl⟩
      have qC : ICell W5 (w2.heap.size) nb (.slice go gl gc) := by rw [hW5]; exact (icell_new _ rfl)
      have b : Below w2.heap.size w2 W5 := by rw [hW5]; exact belowA _ _
      replace ha := ha.below b
      replace hb' := hb'.below b
      replace ug := ug.below (Nat.le_refl _) b
      replace qa := qa.below b
      replace qb := qb.below b
      replace qR := qR.below b
      replace hb := bstep hb b
      replace hsz := Nat.lt_of_lt_of_le hsz b.size
      clear b
      have rqa0 : (w2.alloc (.cells #[.bool nb, .slice go gl gc] 25)).cell? ⟨g, 0, none⟩ = some (.bool na) := by rw [← hW5]; exact qa.cells.1
      have rqa1 : (w2.alloc (.cells #[.bool nb, .slice go gl gc] 25)).cell? ⟨g, 1, none⟩ = some (.slice ao al ac) := by rw [← hW5]; exact qa.cells.2
      have rqb0 : (w2.alloc (.cells #[.bool nb, .slice go gl gc] 25)).cell? ⟨g + 1, 0, none⟩ = some (.bool nb) := by rw [← hW5]; exact qb.cells.1
      have rqb1 : (w2.alloc (.cells #[.bool nb, .slice go gl gc] 25)).cell? ⟨g + 1, 1, none⟩ = some (.slice bo bl bc) := by rw [← hW5]; exact qb.cells.2
      have rqR0 : (w2.alloc (.cells #[.bool nb, .slice go gl gc] 25)).cell? ⟨g + 1 + 1, 0, none⟩ = some (.bool false) := by rw [← hW5]; exact qR.cells.1
      have rqR1 : (w2.alloc (.cells #[.bool nb, .slice go gl gc] 25)).cell? ⟨g + 1 + 1, 1, none⟩ = some (.slice none 0 0) := by rw [← hW5]; exact qR.cells.2.1
      have rqR2 : (w2.alloc (.cells #[.bool nb, .slice go gl gc] 25)).cell? ⟨g + 1 + 1, 2, none⟩ = some (.slice none 0 0) := by rw [← hW5]; exact qR.cells.2.2
      have rqC0 : (w2.alloc (.cells #[.bool nb, .slice go gl gc] 25)).cell? ⟨w2.heap.size, 0, none⟩ = some (.bool nb) := by rw [← hW5]; exact qC.cells.1
      have rqC1 : (w2.alloc (.cells #[.bool nb, .slice go gl gc] 25)).cell? ⟨w2.heap.size, 1, none⟩ = some (.slice go gl gc) := by rw [← hW5]; exact qC.cells.2
      obtain ⟨v5, hv5⟩ : ∃ v, v = w2.heap.size := ⟨_, rfl⟩
      rw [← hv5] at qC
      have HW5 : Hid (W5 = w2.alloc (.cells #[.bool nb, .slice go gl gc] 25)) := hW5
      have Hv5 : Hid (v5 = w2.heap.size) := hv5
      clear hW5 hv5
      go_wp2_with fail
      rw [← HW5.out, ← Hv5.out]
      clear HW5 Hv5 rqa0 rqa1 rqb0 rqb1 rqR0 rqR1 rqR2 rqC0 rqC1
      have ic : INum W5 (.agg #[.bool nb, .slice go gl gc]) (zv nb G) := ⟨_, _, _, _, _, rfl, ug, lG, by rw [val_lim]⟩
      have hordA : W5.heap.size ≤ W5.heap.size := Nat.le_refl _
      have hq1 := c_quo ha ic
      rw [HT.out] at hq1
      generalize errZ (zv nb G).natAbs = er at hq1
      have hszz := hsz
      refine (hq1).mono ?_
      rintro e w6 ⟨mq, mr, rfl, hm, o2, _, b⟩
      clear hq1
      obtain ⟨mo, ml, mc, rfl⟩ := hm.sl
      obtain ⟨uo, ul, uc, rfl⟩ := o2.sl
      obtain ⟨bb, hbb⟩ : ∃ b, b = decide (r.num < 0) := ⟨_, rfl⟩
      have HBB : Hid (bb = decide (r.num < 0)) := hbb
      rw [← hbb]
      generalize decide (rz p (zv nb G) < 0) = tb
      clear o2 hbb
      replace ha := ha.below b
      replace hb' := hb'.below b
      replace ug := ug.below (Nat.le_refl _) b
      replace ic := ic.below b
      replace qa := qa.below b
      replace qb := qb.below b
      replace qR := qR.below b
      replace qC := qC.below b
      replace hb := bstep hb b
      replace hsz := Nat.lt_of_lt_of_le hsz b.size
      replace hordA := Nat.le_trans hordA b.size
      clear b
      obtain ⟨W7, hW7⟩ : ∃ W, W = (w6.alloc (.cells #[.bool bb, .slice mo ml mc] 25)).alloc (.cells #[.bool tb, .slice uo ul uc] 25) := ⟨_, rfl⟩
      have qT : ICell W7 (w6.heap.size) bb (.slice mo ml mc) := by rw [hW7]; exact (icell_step (icell_new _ rfl))
      have qU : ICell W7 (w6.heap.size + 1) tb (.slice uo ul uc) := by rw [hW7]; exact (icell_new _ (by simp))
      have b : Below w6.heap.size w6 W7 := by rw [hW7]; exact bstep (belowA _ _) (belowA _ _)
      replace ha := ha.below b
      replace hb' := hb'.below b
      replace ug := ug.below (Nat.le_refl _) b
      replace ic := ic.below b
      replace hm := hm.below b
      replace qa := qa.below b
      replace qb := qb.below b
      replace qR := qR.below b
      replace qC := qC.below b
      replace hb := bstep hb b
      replace hsz := Nat.lt_of_lt_of_le hsz b.size
      replace hordA := Nat.le_trans hordA b.size
      clear b
      have rqa0 : ((w6.alloc (.cells #[.bool bb, .slice mo ml mc] 25)).alloc (.cells #[.bool tb, .slice uo ul uc] 25)).cell? ⟨g, 0, none⟩ = some (.bool na) := by rw [← hW7]; exact qa.cells.1
      have rqa1 : ((w6.alloc (.cells #[.bool bb, .slice mo ml mc] 25)).alloc (.cells #[.bool tb, .slice uo ul uc] 25)).cell? ⟨g, 1, none⟩ = some (.slice ao al ac) := by rw [← hW7]; exact qa.cells.2
      have rqb0 : ((w6.alloc (.cells #[.bool bb, .slice mo ml mc] 25)).alloc (.cells #[.bool tb, .slice uo ul uc] 25)).cell? ⟨g + 1, 0, none⟩ = some (.bool nb) := by rw [← hW7]; exact qb.cells.1
      have rqb1 : ((w6.alloc (.cells #[.bool bb, .slice mo ml mc] 25)).alloc (.cells #[.bool tb, .slice uo ul uc] 25)).cell? ⟨g + 1, 1, none⟩ = some (.slice bo bl bc) := by rw [← hW7]; exact qb.cells.2
      have rqR0 : ((w6.alloc (.cells #[.bool bb, .slice mo ml mc] 25)).alloc (.cells #[.bool tb, .slice uo ul uc] 25)).cell? ⟨g + 1 + 1, 0, none⟩ = some (.bool false) := by rw [← hW7]; exact qR.cells.1
      have rqR1 : ((w6.alloc (.cells #[.bool bb, .slice mo ml mc] 25)).alloc (.cells #[.bool tb, .slice uo ul uc] 25)).cell? ⟨g + 1 + 1, 1, none⟩ = some (.slice none 0 0) := by rw [← hW7]; exact qR.cells.2.1
      have rqR2 : ((w6.alloc (.cells #[.bool bb, .slice mo ml mc] 25)).alloc (.cells #[.bool tb, .slice uo ul uc] 25)).cell? ⟨g + 1 + 1, 2, none⟩ = some (.slice none 0 0) := by rw [← hW7]; exact qR.cells.2.2
      have rqC0 : ((w6.alloc (.cells #[.bool bb, .slice mo ml mc] 25)).alloc (.cells #[.bool tb, .slice uo ul uc] 25)).cell? ⟨v5, 0, none⟩ = some (.bool nb) := by rw [← hW7]; exact qC.cells.1
      have rqC1 : ((w6.alloc (.cells #[.bool bb, .slice mo ml mc] 25)).alloc (.cells #[.bool tb, .slice uo ul uc] 25)).cell? ⟨v5, 1, none⟩ = some (.slice go gl gc) := by rw [← hW7]; exact qC.cells.2
      have rqT0 : ((w6.alloc (.cells #[.bool bb, .slice mo ml mc] 25)).alloc (.cells #[.bool tb, .slice uo ul uc] 25)).cell? ⟨w6.heap.size, 0, none⟩ = some (.bool bb) := by rw [← hW7]; exact qT.cells.1
      have rqT1 : ((w6.alloc (.cells #[.bool bb, .slice mo ml mc] 25)).alloc (.cells #[.bool tb, .slice uo ul uc] 25)).cell? ⟨w6.heap.size, 1, none⟩ = some (.slice mo ml mc) := by rw [← hW7]; exact qT.cells.2
      have rqU0 : ((w6.alloc (.cells #[.bool bb, .slice mo ml mc] 25)).alloc (.cells #[.bool tb, .slice uo ul uc] 25)).cell? ⟨w6.heap.size + 1, 0, none⟩ = some (.bool tb) := by rw [← hW7]; exact qU.cells.1
      have rqU1 : ((w6.alloc (.cells #[.bool bb, .slice mo ml mc] 25)).alloc (.cells #[.bool tb, .slice uo ul uc] 25)).cell? ⟨w6.heap.size + 1, 1, none⟩ = some (.slice uo ul uc) := by rw [← hW7]; exact qU.cells.2
      obtain ⟨v7, hv7⟩ : ∃ v, v = w6.heap.size := ⟨_, rfl⟩
      rw [← hv7] at qT qU
      have HW7 : Hid (W7 = (w6.alloc (.cells #[.bool bb, .slice mo ml mc] 25)).alloc (.cells #[.bool tb, .slice uo ul uc] 25)) := hW7
      have Hv7 : Hid (v7 = w6.heap.size) := hv7
      clear hW7 hv7
      go_wp2_with fail
      rw [← HW7.out, ← Hv7.out]
      clear HW7 Hv7 rqa0 rqa1 rqb0 rqb1 rqR0 rqR1 rqR2 rqC0 rqC1 rqT0 rqT1 rqU0 rqU1
      have hq1 := c_quo hb' ic
      rw [HD.out] at hq1
      generalize errZ (zv nb G).natAbs = er2 at hq1
      have hord : W5.heap.size ≤ W7.heap.size := hordA
      have HB2 := hm
      refine (hq1).mono ?_
      rintro e w8 ⟨mq, mr, rfl, hd, o2, _, b⟩
      clear hq1
      obtain ⟨mO, mL, mC, rfl⟩ := hd.sl
      obtain ⟨vo, vl, vc, rfl⟩ := o2.sl
      generalize decide ((r.den : Int) < 0) = vb
      generalize decide (rz q (zv nb G) < 0) = xb_
      rw [Int.natAbs_natCast] at hd
      have hap := apart_later HB2 hd (Nat.le_refl _)
      have HSB : Hid (W7.heap.size ≤ W7.heap.size) := Nat.le_trans (Nat.le_refl _) (Nat.le_refl _)
      clear o2 HB2 HSB
      replace ha := ha.below b
      replace hb' := hb'.below b
      replace ug := ug.below (Nat.le_refl _) b
      replace ic := ic.below b
      replace hm := hm.below b
      replace qa := qa.below b
      replace qb := qb.below b
      replace qR := qR.below b
      replace qC := qC.below b
      replace qT := qT.below b
      replace qU := qU.below b
      replace hb := bstep hb b
      replace hsz := Nat.lt_of_lt_of_le hsz b.size
      clear b
      obtain ⟨W, hW⟩ : ∃ W, W = (w8.alloc (.cells #[.bool vb, .slice mO mL mC] 25)).alloc (.cells #[.bool xb_, .slice vo vl vc] 25) := ⟨_, rfl⟩
      have qV : ICell W w8.heap.size vb (.slice mO mL mC) := by rw [hW]; exact icell_step (icell_new _ rfl)
      have b : Below w8.heap.size w8 W := by rw [hW]; exact bstep (belowA _ _) (belowA _ _)
      replace ha := ha.below b
      replace hb' := hb'.below b
      replace ug := ug.below (Nat.le_refl _) b
      replace ic := ic.below b
      replace hm := hm.below b
      replace hd := hd.below b
      replace qa := qa.below b
      replace qb := qb.below b
      replace qR := qR.below b
      replace qC := qC.below b
      replace qT := qT.below b
      replace qU := qU.below b
      replace hb := bstep hb b
      replace hsz := Nat.lt_of_lt_of_le hsz b.size
      clear b
      have qq := qR
      have hd2 := hd.mono hord
      have HE : Hid (REnd w r (.returned (.agg #[.bool bb, .slice mo ml mc, .slice mO mL mC])) (((W.setCell ⟨g + 1 + 1, 0, none⟩ (.bool bb)).setCell ⟨g + 1 + 1, 1, none⟩ (.slice mo ml mc)).setCell ⟨g + 1 + 1, 2, none⟩ (.slice mO mL mC))) := rat_done HBB.out (by rw [HG.out]; omega) hm hd2 hap hszz (hb)
      have HW : Hid (QCell (((W.setCell ⟨g + 1 + 1, 0, none⟩ (.bool bb)).setCell ⟨g + 1 + 1, 1, none⟩ (.slice mo ml mc)).setCell ⟨g + 1 + 1, 2, none⟩ (.slice mO mL mC)) (g + 1 + 1) bb (.slice mo ml mc) (.slice mO mL mC)) := qq.write _ _ _
      obtain ⟨y0, y1, y2⟩ := qq.cells
      have f0 := qq.thaw 0
      have f1 := qq.thaw 1
      have f2 := qq.thaw 2
      clear qq hap
      obtain ⟨cT0, cT1⟩ := qT.cells
      obtain ⟨cV0, cV1⟩ := qV.cells
      clear hb hsz hszz hd2 qV qa qb qR qC qT qU ha hb' ug ic hm hd
      subst hW
      go_wp2_with fail
      (try simp only [Exit.inBlock, Exit.then])
      exact bodyPost_ret (results_cell_row rfl _ _ (g + 1 + 1) 27 _ (0, 0) _ rfl HW.out Tryz.underlying27 rfl (by kernel_rfl)) rfl HE.out
  · go_simp
    have A0 : Below W1.heap.size W1 (W1.alloc (.cells #[.bool false, .slice none 0 0] 25)).drew := bstep (belowA _ _) (below_drew' _)
    clear hHeld
    have hHeld : AllL ((W1.alloc (.cells #[.bool false, .slice none 0 0] 25)).drew) [(1, fun w' => w'.cell? ⟨g + 1, 0, none⟩ = some (.bool nb)), (3, fun w' => w'.cell? ⟨g, 1, none⟩ = some (.slice ao al ac)), (5, fun w' => w'.cell? ⟨g + 1, 1, none⟩ = some (.slice bo bl bc))] := ⟨(qb.below A0).cells.1, (qa.below A0).cells.2, (qb.below A0).cells.2, trivial⟩
    refine hK.out _ _ (AllL.kept hHeld) ?_
    clear hK K
    (try simp only [Act.put, List.setIfInBounds_toArray, List.set_cons_zero, List.set_cons_succ])
    obtain ⟨w2, hw2⟩ : ∃ u, u = (W1.alloc (.cells #[.bool false, .slice none 0 0] 25)).drew := ⟨_, rfl⟩
    have qc : ICell w2 W1.heap.size false (.slice none 0 0) := by rw [hw2]; exact (icell_new W1 rfl).below (below_drew' _)
    have hsz2 : W1.heap.size < w2.heap.size := by rw [hw2]; exact Nat.lt_of_lt_of_le (by simp : W1.heap.size < (W1.alloc (.cells #[.bool false, .slice none 0 0] 25)).heap.size) (below_drew' _).size
    rw [← hw2] at A0 hHeld ⊢
    clear hw2
    refine late_step 6 (by kernel_rfl) rfl (fun K hK => ?_)
    go_simp
    have hgc := gcd_any _ _ _ _ _ (ua.below (Nat.le_refl _) A0) (ub.below (Nat.le_refl _) A0) (by omega) (by omega)
    rw [HGC.out] at hgc
    refine hgc.mono ?_
    rintro e w3 ⟨v, rfl, hv, b2⟩
    clear hgc
    obtain ⟨go, gl, gc, rfl⟩ := hv.sl
    have B2 : Below W1.heap.size W1 w3 := bstep A0 b2
    clear hHeld
    have hHeld : AllL w3 [(1, fun w' => w'.cell? ⟨g + 1, 0, none⟩ = some (.bool nb)), (3, fun w' => w'.cell? ⟨g, 1, none⟩ = some (.slice ao al ac)), (5, fun w' => w'.cell? ⟨g + 1, 1, none⟩ = some (.slice bo bl bc))] := ⟨(qb.below B2).cells.1, (qa.below B2).cells.2, (qb.below B2).cells.2, trivial⟩
    go_wp2_with fail
    refine hK.out _ _ (AllL.kept hHeld) ?_
    clear hK K
    (try simp only [Act.put, List.setIfInBounds_toArray, List.set_cons_zero, List.set_cons_succ])
    refine late_step 7 (by kernel_rfl) rfl (fun K hK => ?_)
    go_simp
    refine hK.out _ _ ⟨Or.inl ⟨7, by kernel_rfl, by kernel_rfl⟩, Or.inl ⟨6, by kernel_rfl, by kernel_rfl⟩, Or.inl ⟨6, by kernel_rfl, by kernel_rfl⟩, trivial⟩ ?_
    clear hK K
    (try simp only [Act.put, List.setIfInBounds_toArray, List.set_cons_zero, List.set_cons_succ])
    have qc3 := qc.below b2
    obtain ⟨y0, y1⟩ := qc3.cells
    have f0 := qc3.thaw 0
    have f1 := qc3.thaw 1
    refine late_step 9 (by kernel_rfl) rfl (fun K hK => ?_)
    go_simp
    refine hK.out _ _ ⟨Or.inl ⟨7, by kernel_rfl, by kernel_rfl⟩, Or.inl ⟨6, by kernel_rfl, by kernel_rfl⟩, Or.inl ⟨6, by kernel_rfl, by kernel_rfl⟩, trivial⟩ ?_
    clear hK K
    (try simp only [Act.put, List.setIfInBounds_toArray, List.set_cons_zero, List.set_cons_succ])
    refine late_done (by kernel_rfl) ?_ _
    clear hHeld y0 y1 f0 f1
    obtain ⟨Y, hY⟩ : ∃ Y, Y = ((w3.setCell ⟨W1.heap.size, 0, none⟩ (.bool nb)).setCell ⟨W1.heap.size, 1, none⟩ (.slice go gl gc)) := ⟨_, rfl⟩
    have qC : ICell Y W1.heap.size nb (.slice go gl gc) := by rw [hY]; exact qc3.write _ _
    have b : Below W1.heap.size W1 Y := by rw [hY]; exact iend2 B2 (Nat.le_refl _)
    have ug : Num Y (.slice go gl gc) (lim G) := by rw [hY]; exact ((hv.other _ (own_ne hv hsz2)).other _ (own_ne hv hsz2)).num
    rw [← hY]
    clear hY hv b2 B2 A0 qc qc3 ua ub hsz2
    replace ha := ha.below b
    replace hb' := hb'.below b
    replace qa := qa.below b
    replace qb := qb.below b
    replace qR := qR.below b
    replace hb := bstep hb b
    replace hsz := Nat.lt_of_lt_of_le hsz b.size
    clear b
    obtain ⟨v5, hv5⟩ : ∃ v, v = W1.heap.size := ⟨_, rfl⟩
    rw [← hv5] at qC ⊢
    clear hv5
    obtain ⟨cqa0, cqa1⟩ := qa.cells
    obtain ⟨cqb0, cqb1⟩ := qb.cells
    obtain ⟨cqR0, cqR1, cqR2⟩ := qR.cells
    obtain ⟨cqC0, cqC1⟩ := qC.cells
    go_wp2_with fail
    clear cqa0 cqa1 cqb0 cqb1 cqR0 cqR1 cqR2 cqC0 cqC1
    have ic : INum Y (.agg #[.bool nb, .slice go gl gc]) (zv nb G) := ⟨_, _, _, _, _, rfl, ug, lG, by rw [val_lim]⟩
    have hordA : Y.heap.size ≤ Y.heap.size := Nat.le_refl _
    have hq1 := c_quo ha ic
    rw [HT.out] at hq1
    generalize errZ (zv nb G).natAbs = er at hq1
    have hszz := hsz
    refine (hq1).mono ?_
    rintro e w5 ⟨mq, mr, rfl, hm, o2, _, b⟩
    clear hq1
    obtain ⟨mo, ml, mc, rfl⟩ := hm.sl
    obtain ⟨uo, ul, uc, rfl⟩ := o2.sl
    obtain ⟨bb, hbb⟩ : ∃ b, b = decide (r.num < 0) := ⟨_, rfl⟩
    have HBB : Hid (bb = decide (r.num < 0)) := hbb
    rw [← hbb]
    generalize decide (rz p (zv nb G) < 0) = tb
    clear o2 hbb
    replace ha := ha.below b
    replace hb' := hb'.below b
    replace ug := ug.below (Nat.le_refl _) b
    replace ic := ic.below b
    replace qa := qa.below b
    replace qb := qb.below b
    replace qR := qR.below b
    replace qC := qC.below b
    replace hb := bstep hb b
    replace hsz := Nat.lt_of_lt_of_le hsz b.size
    replace hordA := Nat.le_trans hordA b.size
    clear b
    obtain ⟨W6, hW6⟩ : ∃ W, W = (w5.alloc (.cells #[.bool bb, .slice mo ml mc] 25)).alloc (.cells #[.bool tb, .slice uo ul uc] 25) := ⟨_, rfl⟩
    have qT : ICell W6 (w5.heap.size) bb (.slice mo ml mc) := by rw [hW6]; exact (icell_step (icell_new _ rfl))
    have qU : ICell W6 (w5.heap.size + 1) tb (.slice uo ul uc) := by rw [hW6]; exact (icell_new _ (by simp))
    have b : Below w5.heap.size w5 W6 := by rw [hW6]; exact bstep (belowA _ _) (belowA _ _)
    replace ha := ha.below b
    replace hb' := hb'.below b
    replace ug := ug.below (Nat.le_refl _) b
    replace ic := ic.below b
    replace hm := hm.below b
    replace qa := qa.below b
    replace qb := qb.below b
    replace qR := qR.below b
    replace qC := qC.below b
    replace hb := bstep hb b
    replace hsz := Nat.lt_of_lt_of_le hsz b.size
    replace hordA := Nat.le_trans hordA b.size
    clear b
    have rqa0 : ((w5.alloc (.cells #[.bool bb, .slice mo ml mc] 25)).alloc (.cells #[.bool tb, .slice uo ul uc] 25)).cell? ⟨g, 0, none⟩ = some (.bool na) := by rw [← hW6]; exact qa.cells.1
    have rqa1 : ((w5.alloc (.cells #[.bool bb, .slice mo ml mc] 25)).alloc (.cells #[.bool tb, .slice uo ul uc] 25)).cell? ⟨g, 1, none⟩ = some (.slice ao al ac) := by rw [← hW6]; exact qa.cells.2
    have rqb0 : ((w5.alloc (.cells #[.bool bb, .slice mo ml mc] 25)).alloc (.cells #[.bool tb, .slice uo ul uc] 25)).cell? ⟨g + 1, 0, none⟩ = some (.bool nb) := by rw [← hW6]; exact qb.cells.1
    have rqb1 : ((w5.alloc (.cells #[.bool bb, .slice mo ml mc] 25)).alloc (.cells #[.bool tb, .slice uo ul uc] 25)).cell? ⟨g + 1, 1, none⟩ = some (.slice bo bl bc) := by rw [← hW6]; exact qb.cells.2
    have rqR0 : ((w5.alloc (.cells #[.bool bb, .slice mo ml mc] 25)).alloc (.cells #[.bool tb, .slice uo ul uc] 25)).cell? ⟨g + 1 + 1, 0, none⟩ = some (.bool false) := by rw [← hW6]; exact qR.cells.1
    have rqR1 : ((w5.alloc (.cells #[.bool bb, .slice mo ml mc] 25)).alloc (.cells #[.bool tb, .slice uo ul uc] 25)).cell? ⟨g + 1 + 1, 1, none⟩ = some (.slice none 0 0) := by rw [← hW6]; exact qR.cells.2.1
    have rqR2 : ((w5.alloc (.cells #[.bool bb, .slice mo ml mc] 25)).alloc (.cells #[.bool tb, .slice uo ul uc] 25)).cell? ⟨g + 1 + 1, 2, none⟩ = some (.slice none 0 0) := by rw [← hW6]; exact qR.cells.2.2
    have rqC0 : ((w5.alloc (.cells #[.bool bb, .slice mo ml mc] 25)).alloc (.cells #[.bool tb, .slice uo ul uc] 25)).cell? ⟨v5, 0, none⟩ = some (.bool nb) := by rw [← hW6]; exact qC.cells.1
    have rqC1 : ((w5.alloc (.cells #[.bool bb, .slice mo ml mc] 25)).alloc (.cells #[.bool tb, .slice uo ul uc] 25)).cell? ⟨v5, 1, none⟩ = some (.slice go gl gc) := by rw [← hW6]; exact qC.cells.2
    have rqT0 : ((w5.alloc (.cells #[.bool bb, .slice mo ml mc] 25)).alloc (.cells #[.bool tb, .slice uo ul uc] 25)).cell? ⟨w5.heap.size, 0, none⟩ = some (.bool bb) := by rw [← hW6]; exact qT.cells.1
    have rqT1 : ((w5.alloc (.cells #[.bool bb, .slice mo ml mc] 25)).alloc (.cells #[.bool tb, .slice uo ul uc] 25)).cell? ⟨w5.heap.size, 1, none⟩ = some (.slice mo ml mc) := by rw [← hW6]; exact qT.cells.2
    have rqU0 : ((w5.alloc (.cells #[.bool bb, .slice mo ml mc] 25)).alloc (.cells #[.bool tb, .slice uo ul uc] 25)).cell? ⟨w5.heap.size + 1, 0, none⟩ = some (.bool tb) := by rw [← hW6]; exact qU.cells.1
    have rqU1 : ((w5.alloc (.cells #[.bool bb, .slice mo ml mc] 25)).alloc (.cells #[.bool tb, .slice uo ul uc] 25)).cell? ⟨w5.heap.size + 1, 1, none⟩ = some (.slice uo ul uc) := by rw [← hW6]; exact qU.cells.2
    obtain ⟨v6, hv6⟩ : ∃ v, v = w5.heap.size := ⟨_, rfl⟩
    rw [← hv6] at qT qU
    have HW6 : Hid (W6 = (w5.alloc (.cells #[.bool bb, .slice mo ml mc] 25)).alloc (.cells #[.bool tb, .slice uo ul uc] 25)) := hW6
    have Hv6 : Hid (v6 = w5.heap.size) := hv6
    clear hW6 hv6
    go_wp2_with fail
    rw [← HW6.out, ← Hv6.out]
    clear HW6 Hv6 rqa0 rqa1 rqb0 rqb1 rqR0 rqR1 rqR2 rqC0 rqC1 rqT0 rqT1 rqU0 rqU1
    have hq1 := c_quo hb' ic
    rw [HD.out] at hq1
    generalize errZ (zv nb G).natAbs = er2 at hq1
    have hord : Y.heap.size ≤ W6.heap.size := hordA
    have HB2 := hm
    refine (hq1).mono ?_
    rintro e w7 ⟨mq, mr, rfl, hd, o2, _, b⟩
    clear hq1
    obtain ⟨mO, mL, mC, rfl⟩ := hd.sl
    obtain ⟨vo, vl, vc, rfl⟩ := o2.sl
    generalize decide ((r.den : Int) < 0) = vb
    generalize decide (rz q (zv nb G) < 0) = xb_
    rw [Int.natAbs_natCast] at hd
    have hap := apart_later HB2 hd (Nat.le_refl _)
    have HSB : Hid (W6.heap.size ≤ W6.heap.size) := Nat.le_trans (Nat.le_refl _) (Nat.le_refl _)
    clear o2 HB2 HSB
    replace ha := ha.below b
    replace hb' := hb'.below b
    replace ug := ug.below (Nat.le_refl _) b
    replace ic := ic.below b
    replace hm := hm.below b
    replace qa := qa.below b
    replace qb := qb.below b
    replace qR := qR.below b
    replace qC := qC.below b
    replace qT := qT.below b
    replace qU := qU.below b
    replace hb := bstep hb b
    replace hsz := Nat.lt_of_lt_of_le hsz b.size
    clear b
    obtain ⟨W, hW⟩ : ∃ W, W = (w7.alloc (.cells #[.bool vb, .slice mO mL mC] 25)).alloc (.cells #[.bool xb_, .slice vo vl vc] 25) := ⟨_, rfl⟩
    have qV : ICell W w7.heap.size vb (.slice mO mL mC) := by rw [hW]; exact icell_step (icell_new _ rfl)
    have b : Below w7.heap.size w7 W := by rw [hW]; exact bstep (belowA _ _) (belowA _ _)
    replace ha := ha.below b
    replace hb' := hb'.below b
    replace ug := ug.below (Nat.le_refl _) b
    replace ic := ic.below b
    replace hm := hm.below b
    replace hd := hd.below b
    replace qa := qa.below b
    replace qb := qb.below b
    replace qR := qR.below b
    replace qC := qC.below b
    replace qT := qT.below b
    replace qU := qU.below b
    replace hb := bstep hb b
    replace hsz := Nat.lt_of_lt_of_le hsz b.size
    clear b
    have qq := qR
    have hd2 := hd.mono hord
    have HE : Hid (REnd w r (.returned (.agg #[.bool bb, .slice mo ml mc, .slice mO mL mC])) (((W.setCell ⟨g + 1 + 1, 0, none⟩ (.bool bb)).setCell ⟨g + 1 + 1, 1, none⟩ (.slice mo ml mc)).setCell ⟨g + 1 + 1, 2, none⟩ (.slice mO mL mC))) := rat_done HBB.out (by rw [HG.out]; omega) hm hd2 hap hszz (hb)
    have HW : Hid (QCell (((W.setCell ⟨g + 1 + 1, 0, none⟩ (.bool bb)).setCell ⟨g + 1 + 1, 1, none⟩ (.slice mo ml mc)).setCell ⟨g + 1 + 1, 2, none⟩ (.slice mO mL mC)) (g + 1 + 1) bb (.slice mo ml mc) (.slice mO mL mC)) := qq.write _ _ _
    obtain ⟨y0, y1, y2⟩ := qq.cells
    have f0 := qq.thaw 0
    have f1 := qq.thaw 1
    have f2 := qq.thaw 2
    clear qq hap
    obtain ⟨cT0, cT1⟩ := qT.cells
    obtain ⟨cV0, cV1⟩ := qV.cells
    clear hb hsz hszz hd2 qV qa qb qR qC qT qU ha hb' ug ic hm hd
    subst hW
    go_wp2_with fail
    (try simp only [Exit.inBlock, Exit.then])
    exact bodyPost_ret (results_cell_row rfl _ _ (g + 1 + 1) 27 _ (0, 0) _ rfl HW.out Tryz.underlying27 rfl (by kernel_rfl)) rfl HE.out
end Go.Proofs.YtaafijifiiiblaaGreat
