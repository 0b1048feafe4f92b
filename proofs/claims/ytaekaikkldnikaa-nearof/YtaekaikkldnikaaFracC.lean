/-
  Proved here: what the functions of package frac that make, compare and reckon answer.
-/
import Derived.Test.YtaekaikkldnikaaFracB
namespace Go.Proofs.Ytaekaikkldnikaa
open Go.RowKit

theorem iend3 {w wr : World} {g : Nat} {v0 v1 v2 : Value} (hb : Below w.heap.size w wr) (hg : w.heap.size ≤ g) : Below w.heap.size w (((wr.setCell ⟨g, 0, none⟩ v0).setCell ⟨g, 1, none⟩ v1).setCell ⟨g, 2, none⟩ v2) := ((hb.setCell (p := ⟨g, 0, none⟩) hg _).setCell (p := ⟨g, 1, none⟩) hg _).setCell (p := ⟨g, 2, none⟩) hg _
/-- What a maker of a fraction and a number of an error leaves. -/
def RTEnd (w : World) (r : Rat) (e : Ending) (w' : World) : Prop := ∃ v, e = .returned (.tuple #[v, .int .i64 0]) ∧ ROwn w.heap.size w' v r ∧ Below w.heap.size w w'
def RNo (w : World) (e : Ending) (w' : World) : Prop := e = .returned (.tuple #[.agg #[.bool false, .slice none 0 0, .slice none 0 0], .int .i64 11]) ∧ Below w.heap.size w w'
theorem REnd.t {w w' : World} {r : Rat} {v : Value} (h : REnd w r (.returned v) w') : RTEnd w r (.returned (.tuple #[v, .int .i64 0])) w' := by
  obtain ⟨v', e, h1, h2⟩ := h
  cases e
  exact ⟨v, rfl, h1, h2⟩
theorem RNum.add {w w' : World} {a b : Value} {x y : Rat} {L M : Nat} (ha : RNum w a x L) (hb : RNum w' b y M) : RSz (x + y) (L + M + 1) := by
  obtain ⟨p, q, _, rfl, h1, h2⟩ := ha
  obtain ⟨r, k, _, rfl, h3, h4⟩ := hb
  exact rsz_add h1 h2 h3 h4
theorem RNum.sub {w w' : World} {a b : Value} {x y : Rat} {L M : Nat} (ha : RNum w a x L) (hb : RNum w' b y M) : RSz (x - y) (L + M + 1) := by
  obtain ⟨p, q, _, rfl, h1, h2⟩ := ha
  obtain ⟨r, k, _, rfl, h3, h4⟩ := hb
  exact rsz_sub h1 h2 h3 h4
theorem RNum.mul {w w' : World} {a b : Value} {x y : Rat} {L M : Nat} (ha : RNum w a x L) (hb : RNum w' b y M) : RSz (x * y) (L + M) := by
  obtain ⟨p, q, _, rfl, h1, h2⟩ := ha
  obtain ⟨r, k, _, rfl, h3, h4⟩ := hb
  exact rsz_mul h1 h2 h3 h4
theorem RNum.neg {w : World} {a : Value} {x : Rat} {L : Nat} (ha : RNum w a x L) : RSz (-x) L := by
  obtain ⟨p, q, _, rfl, h1, h2⟩ := ha
  exact rsz_neg h1 h2
theorem rq_of_zero (q : Nat) : rq 0 q = 0 := by unfold rq; exact Rat.zero_divInt _
theorem RNum.div {w w' : World} {a b : Value} {x y : Rat} {L M : Nat} (ha : RNum w a x L) (hb : RNum w' b y M) (hy : y ≠ 0) : RSz (x / y) (L + M) := by
  obtain ⟨p, q, _, rfl, h1, h2⟩ := ha
  obtain ⟨r, k, _, rfl, h3, h4⟩ := hb
  refine rsz_div (fun h => hy ?_) h1 h2 h3 h4
  rw [h]
  exact rq_of_zero k
theorem und_mul_ne (q k : Nat) : und q * und k ≠ 0 := Int.mul_ne_zero (und_ne _) (und_ne _)
set_option maxRecDepth 100000 in
set_option maxHeartbeats 6400000 in
theorem c_new_yes {a b : Value} {p q : Int} {w : World} (ha : INum w a p) (hb' : INum w b q) (hq : q ≠ 0) : Calls Try.prog 23 #[a, b] w fun e w' => RTEnd w (Rat.divInt p q) e w' := by
  obtain ⟨Z, hZ⟩ : ∃ Z, Z = Rat.divInt p q := ⟨_, rfl⟩
  have HZ : Hid (Rat.divInt p q = Z) := hZ.symm
  rw [← hZ]
  clear hZ
  obtain ⟨na, ao, al, ac, xa, rfl, ua, la, za⟩ := ha
  have ha : INum w (.agg #[.bool na, .slice ao al ac]) p := ⟨_, _, _, _, _, rfl, ua, la, za⟩
  obtain ⟨nb, bo, bl, bc, xb, rfl, ub, lb, zb⟩ := hb'
  have hb' : INum w (.agg #[.bool nb, .slice bo bl bc]) q := ⟨_, _, _, _, _, rfl, ub, lb, zb⟩
  clear ua la za ub lb zb
  obtain ⟨c, hc⟩ : ∃ c, c = cmpZ q 0 := ⟨_, rfl⟩
  have HC : Hid (cmpZ q 0 = c) := hc.symm
  have hc0 : (c == 0) = false := by rw [hc, cmpZ_eq]; exact decide_eq_false hq
  have HQ : Hid (q ≠ 0) := hq
  clear hq hc
  obtain ⟨W1, hW1⟩ : ∃ W1, W1 = ((w.alloc (.cells #[.bool na, .slice ao al ac] 27)).alloc (.cells #[.bool nb, .slice bo bl bc] 27)).alloc (.cells #[.bool false, .slice none 0 0, .slice none 0 0] 29) := ⟨_, rfl⟩
  have qa : ICell W1 (w.heap.size) na (.slice ao al ac) := by rw [hW1]; exact (icell_step (icell_step (icell_new _ (by simp))))
  have qb : ICell W1 (w.heap.size + 1) nb (.slice bo bl bc) := by rw [hW1]; exact (icell_step (icell_new _ (by simp)))
  have qR : QCell W1 (w.heap.size + 1 + 1) false (.slice none 0 0) (.slice none 0 0) := by rw [hW1]; exact (qcell_new _ (by simp))
  have hb : Below w.heap.size w W1 := by rw [hW1]; exact bstep (bstep (belowA w _) (belowA _ _)) (belowA _ _)
  have hsz : w.heap.size + 1 + 1 < W1.heap.size := by rw [hW1]; simp
  replace ha := ha.below hb
  replace hb' := hb'.below hb
  have HW1 : Hid (W1 = ((w.alloc (.cells #[.bool na, .slice ao al ac] 27)).alloc (.cells #[.bool nb, .slice bo bl bc] 27)).alloc (.cells #[.bool false, .slice none 0 0, .slice none 0 0] 29)) := hW1
  clear hW1
  go_enter Try.func23, Try.ntmps23
  go_wp2_with fail
  rw [← HW1.out]
  clear HW1
  obtain ⟨g, hg⟩ : ∃ g, g = w.heap.size := ⟨_, rfl⟩
  rw [← hg] at qa qb qR hsz ⊢
  have HG : Hid (g = w.heap.size) := hg
  clear hg
  have hs := c_sign hb'
  rw [HC.out] at hs
  refine (hs).mono ?_
  rintro e w2 ⟨rfl, b⟩
  clear hs
  replace ha := ha.below b
  replace hb' := hb'.below b
  replace qa := qa.below b
  replace qb := qb.below b
  replace qR := qR.below b
  replace hb := bstep hb b
  replace hsz := Nat.lt_of_lt_of_le hsz b.size
  clear b
  obtain ⟨cqa0, cqa1⟩ := qa.cells
  obtain ⟨cqb0, cqb1⟩ := qb.cells
  obtain ⟨cqR0, cqR1, cqR2⟩ := qR.cells
  go_wp2_with fail
  clear cqa0 cqa1 cqb0 cqb1 cqR0 cqR1 cqR2
  have hq := c_lowest ha hb' HQ.out
  rw [HZ.out] at hq
  have hszz := hsz
  refine (hq).mono ?_
  rintro e w3 ⟨v, rfl, hv, b⟩
  clear hq
  obtain ⟨m, d, rfl, hm, hd, hap⟩ := hv
  obtain ⟨mo, ml, mc, rfl⟩ := hm.sl
  obtain ⟨mO, mL, mC, rfl⟩ := hd.sl
  replace ha := ha.below b
  replace hb' := hb'.below b
  replace qa := qa.below b
  replace qb := qb.below b
  replace qR := qR.below b
  replace hb := bstep hb b
  replace hsz := Nat.lt_of_lt_of_le hsz b.size
  clear b
  have qq := qR
  have HE : Hid (REnd w Z (.returned (.agg #[.bool (decide (Z.num < 0)), .slice mo ml mc, .slice mO mL mC])) (((w3.setCell ⟨g + 1 + 1, 0, none⟩ (.bool (decide (Z.num < 0)))).setCell ⟨g + 1 + 1, 1, none⟩ (.slice mo ml mc)).setCell ⟨g + 1 + 1, 2, none⟩ (.slice mO mL mC))) := rat_done rfl (by rw [HG.out]; omega) hm hd hap hszz (hb)
  have HW : Hid (QCell (((w3.setCell ⟨g + 1 + 1, 0, none⟩ (.bool (decide (Z.num < 0)))).setCell ⟨g + 1 + 1, 1, none⟩ (.slice mo ml mc)).setCell ⟨g + 1 + 1, 2, none⟩ (.slice mO mL mC)) (g + 1 + 1) (decide (Z.num < 0)) (.slice mo ml mc) (.slice mO mL mC)) := qq.write _ _ _
  obtain ⟨y0, y1, y2⟩ := qq.cells
  have f0 := qq.thaw 0
  have f1 := qq.thaw 1
  have f2 := qq.thaw 2
  generalize decide (Z.num < 0) = bb at *
  clear qq hap
  clear hb hsz hszz hm hd qa qb qR ha hb'
  go_wp2_with fail
  (try simp only [Exit.inBlock, Exit.then])
  exact bodyPost_ret (results_ct (p := 4) (u := 5) rfl _ _ (g + 1 + 1) 29 _ (0, 0) _ rfl HW.out Try.underlying29 rfl (by kernel_rfl)) rfl HE.out.t
set_option maxRecDepth 100000 in
set_option maxHeartbeats 6400000 in
theorem c_new_no {a b : Value} {p q : Int} {w : World} (ha : INum w a p) (hb' : INum w b q) (hq : q = 0) : Calls Try.prog 23 #[a, b] w fun e w' => RNo w e w' := by
  obtain ⟨na, ao, al, ac, xa, rfl, ua, la, za⟩ := ha
  have ha : INum w (.agg #[.bool na, .slice ao al ac]) p := ⟨_, _, _, _, _, rfl, ua, la, za⟩
  obtain ⟨nb, bo, bl, bc, xb, rfl, ub, lb, zb⟩ := hb'
  have hb' : INum w (.agg #[.bool nb, .slice bo bl bc]) q := ⟨_, _, _, _, _, rfl, ub, lb, zb⟩
  clear ua la za ub lb zb
  obtain ⟨c, hc⟩ : ∃ c, c = cmpZ q 0 := ⟨_, rfl⟩
  have HC : Hid (cmpZ q 0 = c) := hc.symm
  have hc0 : c = 0 := by rw [hc, hq]; rfl
  clear hc hq
  subst hc0
  obtain ⟨W1, hW1⟩ : ∃ W1, W1 = ((w.alloc (.cells #[.bool na, .slice ao al ac] 27)).alloc (.cells #[.bool nb, .slice bo bl bc] 27)).alloc (.cells #[.bool false, .slice none 0 0, .slice none 0 0] 29) := ⟨_, rfl⟩
  have qa : ICell W1 (w.heap.size) na (.slice ao al ac) := by rw [hW1]; exact (icell_step (icell_step (icell_new _ (by simp))))
  have qb : ICell W1 (w.heap.size + 1) nb (.slice bo bl bc) := by rw [hW1]; exact (icell_step (icell_new _ (by simp)))
  have qR : QCell W1 (w.heap.size + 1 + 1) false (.slice none 0 0) (.slice none 0 0) := by rw [hW1]; exact (qcell_new _ (by simp))
  have hb : Below w.heap.size w W1 := by rw [hW1]; exact bstep (bstep (belowA w _) (belowA _ _)) (belowA _ _)
  have hsz : w.heap.size + 1 + 1 < W1.heap.size := by rw [hW1]; simp
  replace ha := ha.below hb
  replace hb' := hb'.below hb
  have HW1 : Hid (W1 = ((w.alloc (.cells #[.bool na, .slice ao al ac] 27)).alloc (.cells #[.bool nb, .slice bo bl bc] 27)).alloc (.cells #[.bool false, .slice none 0 0, .slice none 0 0] 29)) := hW1
  clear hW1
  go_enter Try.func23, Try.ntmps23
  go_wp2_with fail
  rw [← HW1.out]
  clear HW1
  obtain ⟨g, hg⟩ : ∃ g, g = w.heap.size := ⟨_, rfl⟩
  rw [← hg] at qa qb qR hsz ⊢
  have HG : Hid (g = w.heap.size) := hg
  clear hg
  have hs := c_sign hb'
  rw [HC.out] at hs
  refine (hs).mono ?_
  rintro e w2 ⟨rfl, b⟩
  clear hs
  replace ha := ha.below b
  replace hb' := hb'.below b
  replace qa := qa.below b
  replace qb := qb.below b
  replace qR := qR.below b
  replace hb := bstep hb b
  replace hsz := Nat.lt_of_lt_of_le hsz b.size
  clear b
  have HE : Hid (Below w.heap.size w (((w2.setCell ⟨g + 1 + 1, 0, none⟩ (.bool false)).setCell ⟨g + 1 + 1, 1, none⟩ (.slice none 0 0)).setCell ⟨g + 1 + 1, 2, none⟩ (.slice none 0 0))) := iend3 hb (by rw [HG.out]; omega)
  have HW : Hid (QCell (((w2.setCell ⟨g + 1 + 1, 0, none⟩ (.bool false)).setCell ⟨g + 1 + 1, 1, none⟩ (.slice none 0 0)).setCell ⟨g + 1 + 1, 2, none⟩ (.slice none 0 0)) (g + 1 + 1) false (.slice none 0 0) (.slice none 0 0)) := qR.write _ _ _
  obtain ⟨y0, y1, y2⟩ := qR.cells
  have f0 := qR.thaw 0
  have f1 := qR.thaw 1
  have f2 := qR.thaw 2
  clear hb hsz qa qb qR ha hb'
  go_wp2_with fail
  (try simp only [Exit.inBlock, Exit.then])
  exact bodyPost_ret (results_ct (p := 4) (u := 5) rfl _ _ (g + 1 + 1) 29 _ (0, 0) _ rfl HW.out Try.underlying29 rfl (by kernel_rfl)) rfl ⟨rfl, HE.out⟩
end Go.Proofs.Ytaekaikkldnikaa
