/-
  Proved here: what Simplest of package frac answers.
-/
import Derived.Test.YtfnafgjnimfmjaaGreatDoorSimpRAll
namespace Go.Proofs.YtfnafgjnimfmjaaGreatDoor
open Go.RowKit
attribute [local go_sem ↓] Go.wp_at_zero Go.wp_at_succ

/-- The simplest fraction from a to b. -/
def spQ (a b : Rat) : Rat := if 0 < a.num then sQ a b else if b.num < 0 then -sQ (-b) (-a) else 0
theorem cmpQ_le {a b : Rat} (h : ¬ 0 < cmpQ a b) : a.num * b.den ≤ b.num * a.den := by
  unfold cmpQ cmpZ at h
  split at h
  · omega
  · split at h
    · omega
    · exact absurd (by decide) h
theorem UpTo.neg {a b : Rat} (h : a.num * b.den ≤ b.num * a.den) (hb : b.num < 0) : UpTo (-b) (-a) := by
  refine ⟨by rw [Rat.neg_num]; omega, ?_⟩
  rw [Rat.neg_num, Rat.neg_num, Rat.neg_den, Rat.neg_den, Int.neg_mul, Int.neg_mul]
  omega
theorem UpTo.sz {a b : Rat} {L : Nat} (h : UpTo a b) (ha : RSz a L) : RSz (sQ a b) L := by
  obtain ⟨p1, p2⟩ := h.parts
  have l := (h.simp.le a.den_pos b.den_pos h.nat.2.2).1
  exact ⟨ha.num.le (by rw [p1, Int.natAbs_natCast]; exact l.1), ha.den.le (by rw [p2, Int.natAbs_natCast, Int.natAbs_natCast]; exact l.2)⟩
def RNo3 (w : World) (e : Ending) (w' : World) : Prop := e = .returned (.tuple #[.agg #[.bool false, .slice none 0 0, .slice none 0 0], .int .i64 3]) ∧ Below w.heap.size w w'
theorem ROwn.rv {B : Nat} {w : World} {v : Value} {a : Rat} (h : ROwn B w v a) (hs : RSz a 40) : RV w v a.num a.den := by
  obtain ⟨n, ao, al, ac, bo, bl, bc, rfl, h1, h2⟩ := h.seeB hs
  exact ⟨n, ao, al, ac, bo, bl, bc, rfl, h1, h2⟩
set_option maxRecDepth 100000 in
set_option maxHeartbeats 6400000 in
theorem simplest_no (na : Bool) (ao aO : Option Addr) (al ac aL aC : Nat) (nb : Bool) (bo bO : Option Addr) (bl bc bL bC : Nat) {p r : Int} {q k : Nat} {w : World} (hA : RV w (.agg #[.bool na, .slice ao al ac, .slice aO aL aC]) p q) (hB : RV w (.agg #[.bool nb, .slice bo bl bc, .slice bO bL bC]) r k) (hc : 0 < cmpQ (rq p q) (rq r k)) : Calls Tryz.prog 12 #[.agg #[.bool na, .slice ao al ac, .slice aO aL aC], .agg #[.bool nb, .slice bo bl bc, .slice bO bL bC]] w fun e w' => RNo3 w e w' := by
  have HC : Hid (0 < cmpQ (rq p q) (rq r k)) := hc
  clear hc
  obtain ⟨W1, hW1⟩ : ∃ W1, W1 = ((w.alloc (.cells #[.bool na, .slice ao al ac, .slice aO aL aC] 27)).alloc (.cells #[.bool nb, .slice bo bl bc, .slice bO bL bC] 27)).alloc (.cells #[.bool false, .slice none 0 0, .slice none 0 0] 27) := ⟨_, rfl⟩
  have qa : QCell W1 (w.heap.size) na (.slice ao al ac) (.slice aO aL aC) := by rw [hW1]; exact (qcell_step (qcell_step (qcell_new _ (by simp))))
  have qb : QCell W1 (w.heap.size + 1) nb (.slice bo bl bc) (.slice bO bL bC) := by rw [hW1]; exact (qcell_step (qcell_new _ (by simp)))
  have qR : QCell W1 (w.heap.size + 1 + 1) false (.slice none 0 0) (.slice none 0 0) := by rw [hW1]; exact (qcell_new _ (by simp))
  have hb : Below w.heap.size w W1 := by rw [hW1]; exact bstep (bstep (belowA w _) (belowA _ _)) (belowA _ _)
  have hsz : w.heap.size + 1 + 1 < W1.heap.size := by rw [hW1]; simp
  replace hA := hA.below hb
  replace hB := hB.below hb
  have HW1 : Hid (W1 = ((w.alloc (.cells #[.bool na, .slice ao al ac, .slice aO aL aC] 27)).alloc (.cells #[.bool nb, .slice bo bl bc, .slice bO bL bC] 27)).alloc (.cells #[.bool false, .slice none 0 0, .slice none 0 0] 27)) := hW1
  clear hW1
  go_enter Tryz.func12, Tryz.ntmps12
  go_wp2_with fail
  rw [← HW1.out]
  clear HW1
  obtain ⟨g, hg⟩ : ∃ g, g = w.heap.size := ⟨_, rfl⟩
  rw [← hg] at qa qb qR hsz ⊢
  have HG : Hid (g = w.heap.size) := hg
  clear hg
  obtain ⟨cqa0, cqa1, cqa2⟩ := qa.cells
  obtain ⟨cqb0, cqb1, cqb2⟩ := qb.cells
  obtain ⟨cqR0, cqR1, cqR2⟩ := qR.cells
  go_wp2_with fail
  clear cqa0 cqa1 cqa2 cqb0 cqb1 cqb2 cqR0 cqR1 cqR2
  have hq := aCmpF hA hB
  obtain ⟨c, hc⟩ : ∃ c, c = cmpQ (rq p q) (rq r k) := ⟨_, rfl⟩
  have hc0 : 0 < c := by rw [hc]; have := HC.out; omega
  rw [← hc] at hq
  clear hc HC
  refine (hq).mono ?_
  rintro e w2 ⟨rfl, b⟩
  clear hq
  replace hA := hA.below b
  replace hB := hB.below b
  replace qa := qa.below b
  replace qb := qb.below b
  replace qR := qR.below b
  replace hb := bstep hb b
  replace hsz := Nat.lt_of_lt_of_le hsz b.size
  clear b
  have HE : Hid (Below w.heap.size w (((w2.setCell ⟨g + 1 + 1, 0, none⟩ (.bool false)).setCell ⟨g + 1 + 1, 1, none⟩ (.slice none 0 0)).setCell ⟨g + 1 + 1, 2, none⟩ (.slice none 0 0))) := iend3 hb (by rw [HG.out]; omega)
  have HW : Hid (QCell (((w2.setCell ⟨g + 1 + 1, 0, none⟩ (.bool false)).setCell ⟨g + 1 + 1, 1, none⟩ (.slice none 0 0)).setCell ⟨g + 1 + 1, 2, none⟩ (.slice none 0 0)) (g + 1 + 1) false (.slice none 0 0) (.slice none 0 0)) := qR.write _ _ _
  obtain ⟨y0, y1, y2⟩ := qR.cells
  have f0 := qR.thaw 0
  have f1 := qR.thaw 1
  have f2 := qR.thaw 2
  obtain ⟨ca0, ca1, ca2⟩ := qa.cells
  obtain ⟨cb0, cb1, cb2⟩ := qb.cells
  clear hb hsz hA hB qa qb qR
  go_wp2_with fail
  (try simp only [Exit.inBlock, Exit.then])
  exact bodyPost_ret (results_ct (p := 4) (u := 5) rfl _ _ (g + 1 + 1) 27 _ (0, 0) _ rfl HW.out Tryz.underlying27 rfl (by kernel_rfl)) rfl ⟨rfl, HE.out⟩
set_option maxRecDepth 100000 in
set_option maxHeartbeats 6400000 in
theorem simplest_pos (na : Bool) (ao aO : Option Addr) (al ac aL aC : Nat) (nb : Bool) (bo bO : Option Addr) (bl bc bL bC : Nat) {p r : Int} {q k : Nat} {w : World} (hA : RV w (.agg #[.bool na, .slice ao al ac, .slice aO aL aC]) p q) (hB : RV w (.agg #[.bool nb, .slice bo bl bc, .slice bO bL bC]) r k) (hc : ¬ 0 < cmpQ (rq p q) (rq r k)) (hs1 : 0 < sgnQ (rq p q)) (hp0 : 0 < (rq p q).num) : Calls Tryz.prog 12 #[.agg #[.bool na, .slice ao al ac, .slice aO aL aC], .agg #[.bool nb, .slice bo bl bc, .slice bO bL bC]] w fun e w' => RTEnd w (sQ (rq p q) (rq r k)) e w' := by
  have HC : Hid (¬ 0 < cmpQ (rq p q) (rq r k)) := hc
  clear hc
  have Hsa : Hid (0 < sgnQ (rq p q)) := hs1
  have HU : Hid (UpTo (rq p q) (rq r k)) := ⟨hp0, cmpQ_le HC.out⟩
  obtain ⟨Z, hZ⟩ : ∃ Z, Z = sQ (rq p q) (rq r k) := ⟨_, rfl⟩
  rw [← hZ]
  have HZ : Hid (Z = sQ (rq p q) (rq r k)) := hZ
  clear hs1 hp0 hZ
  obtain ⟨W1, hW1⟩ : ∃ W1, W1 = ((w.alloc (.cells #[.bool na, .slice ao al ac, .slice aO aL aC] 27)).alloc (.cells #[.bool nb, .slice bo bl bc, .slice bO bL bC] 27)).alloc (.cells #[.bool false, .slice none 0 0, .slice none 0 0] 27) := ⟨_, rfl⟩
  have qa : QCell W1 (w.heap.size) na (.slice ao al ac) (.slice aO aL aC) := by rw [hW1]; exact (qcell_step (qcell_step (qcell_new _ (by simp))))
  have qb : QCell W1 (w.heap.size + 1) nb (.slice bo bl bc) (.slice bO bL bC) := by rw [hW1]; exact (qcell_step (qcell_new _ (by simp)))
  have qR : QCell W1 (w.heap.size + 1 + 1) false (.slice none 0 0) (.slice none 0 0) := by rw [hW1]; exact (qcell_new _ (by simp))
  have hb : Below w.heap.size w W1 := by rw [hW1]; exact bstep (bstep (belowA w _) (belowA _ _)) (belowA _ _)
  have hsz : w.heap.size + 1 + 1 < W1.heap.size := by rw [hW1]; simp
  replace hA := hA.below hb
  replace hB := hB.below hb
  have HW1 : Hid (W1 = ((w.alloc (.cells #[.bool na, .slice ao al ac, .slice aO aL aC] 27)).alloc (.cells #[.bool nb, .slice bo bl bc, .slice bO bL bC] 27)).alloc (.cells #[.bool false, .slice none 0 0, .slice none 0 0] 27)) := hW1
  clear hW1
  go_enter Tryz.func12, Tryz.ntmps12
  go_wp2_with fail
  rw [← HW1.out]
  clear HW1
  obtain ⟨g, hg⟩ : ∃ g, g = w.heap.size := ⟨_, rfl⟩
  rw [← hg] at qa qb qR hsz ⊢
  have HG : Hid (g = w.heap.size) := hg
  clear hg
  obtain ⟨cqa0, cqa1, cqa2⟩ := qa.cells
  obtain ⟨cqb0, cqb1, cqb2⟩ := qb.cells
  obtain ⟨cqR0, cqR1, cqR2⟩ := qR.cells
  go_wp2_with fail
  clear cqa0 cqa1 cqa2 cqb0 cqb1 cqb2 cqR0 cqR1 cqR2
  have hq := aCmpF hA hB
  obtain ⟨c, hc⟩ : ∃ c, c = cmpQ (rq p q) (rq r k) := ⟨_, rfl⟩
  have hc0 : ¬ 0 < c := by rw [hc]; have := HC.out; omega
  rw [← hc] at hq
  clear hc
  refine (hq).mono ?_
  rintro e w2 ⟨rfl, b⟩
  clear hq
  replace hA := hA.below b
  replace hB := hB.below b
  replace qa := qa.below b
  replace qb := qb.below b
  replace qR := qR.below b
  replace hb := bstep hb b
  replace hsz := Nat.lt_of_lt_of_le hsz b.size
  clear b
  obtain ⟨cqa0, cqa1, cqa2⟩ := qa.cells
  obtain ⟨cqb0, cqb1, cqb2⟩ := qb.cells
  obtain ⟨cqR0, cqR1, cqR2⟩ := qR.cells
  go_wp2_with fail
  clear cqa0 cqa1 cqa2 cqb0 cqb1 cqb2 cqR0 cqR1 cqR2
  have hq := aSignF hA
  obtain ⟨sa, hs⟩ : ∃ s, s = sgnQ (rq p q) := ⟨_, rfl⟩
  have hsa : 0 < sa := by rw [hs]; have := Hsa.out; omega
  rw [← hs] at hq
  clear hs
  refine (hq).mono ?_
  rintro e w3 ⟨rfl, b⟩
  clear hq
  replace hA := hA.below b
  replace hB := hB.below b
  replace qa := qa.below b
  replace qb := qb.below b
  replace qR := qR.below b
  replace hb := bstep hb b
  replace hsz := Nat.lt_of_lt_of_le hsz b.size
  clear b
  obtain ⟨cqa0, cqa1, cqa2⟩ := qa.cells
  obtain ⟨cqb0, cqb1, cqb2⟩ := qb.cells
  obtain ⟨cqR0, cqR1, cqR2⟩ := qR.cells
  go_wp2_with fail
  clear cqa0 cqa1 cqa2 cqb0 cqb1 cqb2 cqR0 cqR1 cqR2
  have hq := between_q hA hB HU.out
  rw [← HZ.out] at hq
  have hszz := hsz
  refine (hq).mono ?_
  rintro e w4 ⟨v, rfl, hv, b⟩
  clear hq
  obtain ⟨m, d, rfl, hm, hd, hap⟩ := hv
  obtain ⟨mo, ml, mc, rfl⟩ := hm.sl
  obtain ⟨mO, mL, mC, rfl⟩ := hd.sl
  replace hA := hA.below b
  replace hB := hB.below b
  replace qa := qa.below b
  replace qb := qb.below b
  replace qR := qR.below b
  replace hb := bstep hb b
  replace hsz := Nat.lt_of_lt_of_le hsz b.size
  clear b
  have qq := qR
  have HE : Hid (REnd w Z (.returned (.agg #[.bool (decide (Z.num < 0)), .slice mo ml mc, .slice mO mL mC])) (((w4.setCell ⟨g + 1 + 1, 0, none⟩ (.bool (decide (Z.num < 0)))).setCell ⟨g + 1 + 1, 1, none⟩ (.slice mo ml mc)).setCell ⟨g + 1 + 1, 2, none⟩ (.slice mO mL mC))) := rat_done rfl (by rw [HG.out]; omega) hm hd hap hszz (hb)
  have HW : Hid (QCell (((w4.setCell ⟨g + 1 + 1, 0, none⟩ (.bool (decide (Z.num < 0)))).setCell ⟨g + 1 + 1, 1, none⟩ (.slice mo ml mc)).setCell ⟨g + 1 + 1, 2, none⟩ (.slice mO mL mC)) (g + 1 + 1) (decide (Z.num < 0)) (.slice mo ml mc) (.slice mO mL mC)) := qq.write _ _ _
  obtain ⟨y0, y1, y2⟩ := qq.cells
  have f0 := qq.thaw 0
  have f1 := qq.thaw 1
  have f2 := qq.thaw 2
  generalize decide (Z.num < 0) = bb at *
  clear qq hap
  clear hb hsz hszz hm hd qa qb qR hA hB
  go_wp2_with fail
  (try simp only [Exit.inBlock, Exit.then])
  exact bodyPost_ret (results_ct (p := 4) (u := 5) rfl _ _ (g + 1 + 1) 27 _ (0, 0) _ rfl HW.out Tryz.underlying27 rfl (by kernel_rfl)) rfl HE.out.t
set_option maxRecDepth 100000 in
set_option maxHeartbeats 6400000 in
theorem simplest_zero (na : Bool) (ao aO : Option Addr) (al ac aL aC : Nat) (nb : Bool) (bo bO : Option Addr) (bl bc bL bC : Nat) {p r : Int} {q k : Nat} {w : World} (hA : RV w (.agg #[.bool na, .slice ao al ac, .slice aO aL aC]) p q) (hB : RV w (.agg #[.bool nb, .slice bo bl bc, .slice bO bL bC]) r k) (hc : ¬ 0 < cmpQ (rq p q) (rq r k)) (hs1 : ¬ 0 < sgnQ (rq p q)) (hs2 : ¬ sgnQ (rq r k) < 0) (Z : Rat) (hZ : Z = 0) : Calls Tryz.prog 12 #[.agg #[.bool na, .slice ao al ac, .slice aO aL aC], .agg #[.bool nb, .slice bo bl bc, .slice bO bL bC]] w fun e w' => RTEnd w Z e w' := by
  have HC : Hid (¬ 0 < cmpQ (rq p q) (rq r k)) := hc
  clear hc
  have Hsa : Hid (¬ 0 < sgnQ (rq p q)) := hs1
  have Hsb : Hid (¬ sgnQ (rq r k) < 0) := hs2
  have HZ : Hid (Z = 0) := hZ
  clear hs1 hs2 hZ
  obtain ⟨W1, hW1⟩ : ∃ W1, W1 = ((w.alloc (.cells #[.bool na, .slice ao al ac, .slice aO aL aC] 27)).alloc (.cells #[.bool nb, .slice bo bl bc, .slice bO bL bC] 27)).alloc (.cells #[.bool false, .slice none 0 0, .slice none 0 0] 27) := ⟨_, rfl⟩
  have qa : QCell W1 (w.heap.size) na (.slice ao al ac) (.slice aO aL aC) := by rw [hW1]; exact (qcell_step (qcell_step (qcell_new _ (by simp))))
  have qb : QCell W1 (w.heap.size + 1) nb (.slice bo bl bc) (.slice bO bL bC) := by rw [hW1]; exact (qcell_step (qcell_new _ (by simp)))
  have qR : QCell W1 (w.heap.size + 1 + 1) false (.slice none 0 0) (.slice none 0 0) := by rw [hW1]; exact (qcell_new _ (by simp))
  have hb : Below w.heap.size w W1 := by rw [hW1]; exact bstep (bstep (belowA w _) (belowA _ _)) (belowA _ _)
  have hsz : w.heap.size + 1 + 1 < W1.heap.size := by rw [hW1]; simp
  replace hA := hA.below hb
  replace hB := hB.below hb
  have HW1 : Hid (W1 = ((w.alloc (.cells #[.bool na, .slice ao al ac, .slice aO aL aC] 27)).alloc (.cells #[.bool nb, .slice bo bl bc, .slice bO bL bC] 27)).alloc (.cells #[.bool false, .slice none 0 0, .slice none 0 0] 27)) := hW1
  clear hW1
  go_enter Tryz.func12, Tryz.ntmps12
  go_wp2_with fail
  rw [← HW1.out]
  clear HW1
  obtain ⟨g, hg⟩ : ∃ g, g = w.heap.size := ⟨_, rfl⟩
  rw [← hg] at qa qb qR hsz ⊢
  have HG : Hid (g = w.heap.size) := hg
  clear hg
  obtain ⟨cqa0, cqa1, cqa2⟩ := qa.cells
  obtain ⟨cqb0, cqb1, cqb2⟩ := qb.cells
  obtain ⟨cqR0, cqR1, cqR2⟩ := qR.cells
  go_wp2_with fail
  clear cqa0 cqa1 cqa2 cqb0 cqb1 cqb2 cqR0 cqR1 cqR2
  have hq := aCmpF hA hB
  obtain ⟨c, hc⟩ : ∃ c, c = cmpQ (rq p q) (rq r k) := ⟨_, rfl⟩
  have hc0 : ¬ 0 < c := by rw [hc]; have := HC.out; omega
  rw [← hc] at hq
  clear hc
  refine (hq).mono ?_
  rintro e w2 ⟨rfl, b⟩
  clear hq
  replace hA := hA.below b
  replace hB := hB.below b
  replace qa := qa.below b
  replace qb := qb.below b
  replace qR := qR.below b
  replace hb := bstep hb b
  replace hsz := Nat.lt_of_lt_of_le hsz b.size
  clear b
  obtain ⟨cqa0, cqa1, cqa2⟩ := qa.cells
  obtain ⟨cqb0, cqb1, cqb2⟩ := qb.cells
  obtain ⟨cqR0, cqR1, cqR2⟩ := qR.cells
  go_wp2_with fail
  clear cqa0 cqa1 cqa2 cqb0 cqb1 cqb2 cqR0 cqR1 cqR2
  have hq := aSignF hA
  obtain ⟨sa, hs⟩ : ∃ s, s = sgnQ (rq p q) := ⟨_, rfl⟩
  have hsa : ¬ 0 < sa := by rw [hs]; have := Hsa.out; omega
  rw [← hs] at hq
  clear hs
  refine (hq).mono ?_
  rintro e w3 ⟨rfl, b⟩
  clear hq
  replace hA := hA.below b
  replace hB := hB.below b
  replace qa := qa.below b
  replace qb := qb.below b
  replace qR := qR.below b
  replace hb := bstep hb b
  replace hsz := Nat.lt_of_lt_of_le hsz b.size
  clear b
  obtain ⟨cqa0, cqa1, cqa2⟩ := qa.cells
  obtain ⟨cqb0, cqb1, cqb2⟩ := qb.cells
  obtain ⟨cqR0, cqR1, cqR2⟩ := qR.cells
  go_wp2_with fail
  clear cqa0 cqa1 cqa2 cqb0 cqb1 cqb2 cqR0 cqR1 cqR2
  have hq := aSignF hB
  obtain ⟨sb, hs⟩ : ∃ s, s = sgnQ (rq r k) := ⟨_, rfl⟩
  have hsb : ¬ sb < 0 := by rw [hs]; have := Hsb.out; omega
  rw [← hs] at hq
  clear hs
  refine (hq).mono ?_
  rintro e w4 ⟨rfl, b⟩
  clear hq
  replace hA := hA.below b
  replace hB := hB.below b
  replace qa := qa.below b
  replace qb := qb.below b
  replace qR := qR.below b
  replace hb := bstep hb b
  replace hsz := Nat.lt_of_lt_of_le hsz b.size
  clear b
  obtain ⟨cqa0, cqa1, cqa2⟩ := qa.cells
  obtain ⟨cqb0, cqb1, cqb2⟩ := qb.cells
  obtain ⟨cqR0, cqR1, cqR2⟩ := qR.cells
  go_wp2_with fail
  clear cqa0 cqa1 cqa2 cqb0 cqb1 cqb2 cqR0 cqR1 cqR2
  have hq := c_rsum none 0 0 0 (fun _ => 0) 1 w4 (fun h => absurd h (by decide)) (fun i hi => absurd hi (by omega)) (by decide)
  have hq9 : Calls Tryz.prog 20 #[.slice none 0 0] w4 fun e w' => REnd w4 Z e w' := by rw [HZ.out]; exact hq
  clear hq
  have hszz := hsz
  refine (hq9).mono ?_
  rintro e w5 ⟨v, rfl, hv, b⟩
  clear hq9
  obtain ⟨m, d, rfl, hm, hd, hap⟩ := hv
  obtain ⟨mo, ml, mc, rfl⟩ := hm.sl
  obtain ⟨mO, mL, mC, rfl⟩ := hd.sl
  replace hA := hA.below b
  replace hB := hB.below b
  replace qa := qa.below b
  replace qb := qb.below b
  replace qR := qR.below b
  replace hb := bstep hb b
  replace hsz := Nat.lt_of_lt_of_le hsz b.size
  clear b
  have qq := qR
  have HE : Hid (REnd w Z (.returned (.agg #[.bool (decide (Z.num < 0)), .slice mo ml mc, .slice mO mL mC])) (((w5.setCell ⟨g + 1 + 1, 0, none⟩ (.bool (decide (Z.num < 0)))).setCell ⟨g + 1 + 1, 1, none⟩ (.slice mo ml mc)).setCell ⟨g + 1 + 1, 2, none⟩ (.slice mO mL mC))) := rat_done rfl (by rw [HG.out]; omega) hm hd hap hszz (hb)
  have HW : Hid (QCell (((w5.setCell ⟨g + 1 + 1, 0, none⟩ (.bool (decide (Z.num < 0)))).setCell ⟨g + 1 + 1, 1, none⟩ (.slice mo ml mc)).setCell ⟨g + 1 + 1, 2, none⟩ (.slice mO mL mC)) (g + 1 + 1) (decide (Z.num < 0)) (.slice mo ml mc) (.slice mO mL mC)) := qq.write _ _ _
  obtain ⟨y0, y1, y2⟩ := qq.cells
  have f0 := qq.thaw 0
  have f1 := qq.thaw 1
  have f2 := qq.thaw 2
  generalize decide (Z.num < 0) = bb at *
  clear qq hap
  clear hb hsz hszz hm hd qa qb qR hA hB
  go_wp2_with fail
  (try simp only [Exit.inBlock, Exit.then])
  exact bodyPost_ret (results_ct (p := 4) (u := 5) rfl _ _ (g + 1 + 1) 27 _ (0, 0) _ rfl HW.out Tryz.underlying27 rfl (by kernel_rfl)) rfl HE.out.t
set_option maxRecDepth 100000 in
set_option maxHeartbeats 6400000 in
theorem simplest_neg (na : Bool) (ao aO : Option Addr) (al ac aL aC : Nat) (nb : Bool) (bo bO : Option Addr) (bl bc bL bC : Nat) {p r : Int} {q k : Nat} {w : World} (hA : RV w (.agg #[.bool na, .slice ao al ac, .slice aO aL aC]) p q) (hB : RV w (.agg #[.bool nb, .slice bo bl bc, .slice bO bL bC]) r k) (hc : ¬ 0 < cmpQ (rq p q) (rq r k)) (hs1 : ¬ 0 < sgnQ (rq p q)) (hs2 : sgnQ (rq r k) < 0) (hr0 : (rq r k).num < 0) : Calls Tryz.prog 12 #[.agg #[.bool na, .slice ao al ac, .slice aO aL aC], .agg #[.bool nb, .slice bo bl bc, .slice bO bL bC]] w fun e w' => RTEnd w (-sQ (-rq r k) (-rq p q)) e w' := by
  have HC : Hid (¬ 0 < cmpQ (rq p q) (rq r k)) := hc
  clear hc
  have Hsa : Hid (¬ 0 < sgnQ (rq p q)) := hs1
  have Hsb : Hid (sgnQ (rq r k) < 0) := hs2
  have HU : Hid (UpTo (-rq r k) (-rq p q)) := UpTo.neg (cmpQ_le HC.out) hr0
  obtain ⟨Z, hZ⟩ : ∃ Z, Z = -sQ (-rq r k) (-rq p q) := ⟨_, rfl⟩
  rw [← hZ]
  have HZ : Hid (Z = -sQ (-rq r k) (-rq p q)) := hZ
  clear hs1 hs2 hr0 hZ
  obtain ⟨W1, hW1⟩ : ∃ W1, W1 = ((w.alloc (.cells #[.bool na, .slice ao al ac, .slice aO aL aC] 27)).alloc (.cells #[.bool nb, .slice bo bl bc, .slice bO bL bC] 27)).alloc (.cells #[.bool false, .slice none 0 0, .slice none 0 0] 27) := ⟨_, rfl⟩
  have qa : QCell W1 (w.heap.size) na (.slice ao al ac) (.slice aO aL aC) := by rw [hW1]; exact (qcell_step (qcell_step (qcell_new _ (by simp))))
  have qb : QCell W1 (w.heap.size + 1) nb (.slice bo bl bc) (.slice bO bL bC) := by rw [hW1]; exact (qcell_step (qcell_new _ (by simp)))
  have qR : QCell W1 (w.heap.size + 1 + 1) false (.slice none 0 0) (.slice none 0 0) := by rw [hW1]; exact (qcell_new _ (by simp))
  have hb : Below w.heap.size w W1 := by rw [hW1]; exact bstep (bstep (belowA w _) (belowA _ _)) (belowA _ _)
  have hsz : w.heap.size + 1 + 1 < W1.heap.size := by rw [hW1]; simp
  replace hA := hA.below hb
  replace hB := hB.below hb
  have HW1 : Hid (W1 = ((w.alloc (.cells #[.bool na, .slice ao al ac, .slice aO aL aC] 27)).alloc (.cells #[.bool nb, .slice bo bl bc, .slice bO bL bC] 27)).alloc (.cells #[.bool false, .slice none 0 0, .slice none 0 0] 27)) := hW1
  clear hW1
  go_enter Tryz.func12, Tryz.ntmps12
  go_wp2_with fail
  rw [← HW1.out]
  clear HW1
  obtain ⟨g, hg⟩ : ∃ g, g = w.heap.size := ⟨_, rfl⟩
  rw [← hg] at qa qb qR hsz ⊢
  have HG : Hid (g = w.heap.size) := hg
  clear hg
  obtain ⟨cqa0, cqa1, cqa2⟩ := qa.cells
  obtain ⟨cqb0, cqb1, cqb2⟩ := qb.cells
  obtain ⟨cqR0, cqR1, cqR2⟩ := qR.cells
  go_wp2_with fail
  clear cqa0 cqa1 cqa2 cqb0 cqb1 cqb2 cqR0 cqR1 cqR2
  have hq := aCmpF hA hB
  obtain ⟨c, hc⟩ : ∃ c, c = cmpQ (rq p q) (rq r k) := ⟨_, rfl⟩
  have hc0 : ¬ 0 < c := by rw [hc]; have := HC.out; omega
  rw [← hc] at hq
  clear hc
  refine (hq).mono ?_
  rintro e w2 ⟨rfl, b⟩
  clear hq
  replace hA := hA.below b
  replace hB := hB.below b
  replace qa := qa.below b
  replace qb := qb.below b
  replace qR := qR.below b
  replace hb := bstep hb b
  replace hsz := Nat.lt_of_lt_of_le hsz b.size
  clear b
  obtain ⟨cqa0, cqa1, cqa2⟩ := qa.cells
  obtain ⟨cqb0, cqb1, cqb2⟩ := qb.cells
  obtain ⟨cqR0, cqR1, cqR2⟩ := qR.cells
  go_wp2_with fail
  clear cqa0 cqa1 cqa2 cqb0 cqb1 cqb2 cqR0 cqR1 cqR2
  have hq := aSignF hA
  obtain ⟨sa, hs⟩ : ∃ s, s = sgnQ (rq p q) := ⟨_, rfl⟩
  have hsa : ¬ 0 < sa := by rw [hs]; have := Hsa.out; omega
  rw [← hs] at hq
  clear hs
  refine (hq).mono ?_
  rintro e w3 ⟨rfl, b⟩
  clear hq
  replace hA := hA.below b
  replace hB := hB.below b
  replace qa := qa.below b
  replace qb := qb.below b
  replace qR := qR.below b
  replace hb := bstep hb b
  replace hsz := Nat.lt_of_lt_of_le hsz b.size
  clear b
  obtain ⟨cqa0, cqa1, cqa2⟩ := qa.cells
  obtain ⟨cqb0, cqb1, cqb2⟩ := qb.cells
  obtain ⟨cqR0, cqR1, cqR2⟩ := qR.cells
  go_wp2_with fail
  clear cqa0 cqa1 cqa2 cqb0 cqb1 cqb2 cqR0 cqR1 cqR2
  have hq := aSignF hB
  obtain ⟨sb, hs⟩ : ∃ s, s = sgnQ (rq r k) := ⟨_, rfl⟩
  have hsb : sb < 0 := by rw [hs]; have := Hsb.out; omega
  rw [← hs] at hq
  clear hs
  refine (hq).mono ?_
  rintro e w4 ⟨rfl, b⟩
  clear hq
  replace hA := hA.below b
  replace hB := hB.below b
  replace qa := qa.below b
  replace qb := qb.below b
  replace qR := qR.below b
  replace hb := bstep hb b
  replace hsz := Nat.lt_of_lt_of_le hsz b.size
  clear b
  obtain ⟨cqa0, cqa1, cqa2⟩ := qa.cells
  obtain ⟨cqb0, cqb1, cqb2⟩ := qb.cells
  obtain ⟨cqR0, cqR1, cqR2⟩ := qR.cells
  go_wp2_with fail
  clear cqa0 cqa1 cqa2 cqb0 cqb1 cqb2 cqR0 cqR1 cqR2
  have HS : Hid (RSz (-rq r k) 40 ∧ RSz (-rq p q) 40 ∧ RSz (sQ (-rq r k) (-rq p q)) 40) := ⟨rsz_neg hB.sz.1 hB.sz.2, rsz_neg hA.sz.1 hA.sz.2, HU.out.sz (rsz_neg hB.sz.1 hB.sz.2)⟩
  have KEEP : ∀ u, Below w4.heap.size w4 u → AllL u [(0, fun w' => w'.cell? ⟨g + 1, 0, none⟩ = some (.bool nb) ∧ w'.cell? ⟨g + 1, 1, none⟩ = some (.slice bo bl bc) ∧ w'.cell? ⟨g + 1, 2, none⟩ = some (.slice bO bL bC)), (2, fun w' => w'.cell? ⟨g, 0, none⟩ = some (.bool na) ∧ w'.cell? ⟨g, 1, none⟩ = some (.slice ao al ac) ∧ w'.cell? ⟨g, 2, none⟩ = some (.slice aO aL aC))] := fun u B => ⟨(qb.below B).cells, (qa.below B).cells, trivial⟩
  refine region_late [(0, fun w' => w'.cell? ⟨g + 1, 0, none⟩ = some (.bool nb) ∧ w'.cell? ⟨g + 1, 1, none⟩ = some (.slice bo bl bc) ∧ w'.cell? ⟨g + 1, 2, none⟩ = some (.slice bO bL bC)), (2, fun w' => w'.cell? ⟨g, 0, none⟩ = some (.bool na) ∧ w'.cell? ⟨g, 1, none⟩ = some (.slice ao al ac) ∧ w'.cell? ⟨g, 2, none⟩ = some (.slice aO aL aC))] (by kernel_rfl) ?_
  have BZ : Below w4.heap.size w4 w4.drew := below_drew' _
  obtain ⟨wz, hwz⟩ : ∃ u, u = w4.drew := ⟨_, rfl⟩
  rw [← hwz] at BZ ⊢
  clear hwz
  have hHeld := KEEP _ BZ
  have khA := hA.below BZ
  have khB := hB.below BZ
  refine late_tk 0 (v := .agg #[.bool nb, .slice bo bl bc, .slice bO bL bC]) rfl (List.Mem.head _) (Or.inl ⟨by rfl, ?_⟩) hHeld ?_
  · (intro u hu; (try dsimp only at hu); go_split_ands; go_simp)
  (try simp only [Act.put, putA, putB, putC])
  refine late_tk 2 (v := .agg #[.bool na, .slice ao al ac, .slice aO aL aC]) rfl (List.Mem.tail _ (List.Mem.head _)) (Or.inl ⟨by rfl, ?_⟩) hHeld ?_
  · (intro u hu; (try dsimp only at hu); go_split_ands; go_simp)
  (try simp only [Act.put, putA, putB, putC])
  refine late_st 1 rfl (fun K hK => ?_)
  go_simp
  refine (c_rneg khB.rn (by decide)).mono ?_
  rintro e w5 ⟨v, rfl, hv, b5⟩
  have r1 := hv.rv HS.out.1
  clear hv khB
  obtain ⟨z1, o1, l1, c1, O1, L1, C1, rfl, _, _⟩ := id r1
  replace khA := khA.below b5
  have B5 : Below w4.heap.size w4 w5 := bstep BZ b5
  clear BZ b5
  replace hHeld := KEEP _ B5
  go_wp2_with fail
  refine hK.out _ _ (AllL.kept hHeld) ?_
  clear hK K
  (try simp only [Act.put, putA, putB, putC])
  refine late_st 3 rfl (fun K hK => ?_)
  go_simp
  refine (c_rneg khA.rn (by decide)).mono ?_
  rintro e w6 ⟨v, rfl, hv, b6⟩
  have r2 := hv.rv HS.out.2.1
  clear hv khA
  obtain ⟨z2, o2, l2, c2, O2, L2, C2, rfl, _, _⟩ := id r2
  replace r1 := r1.below b6
  have B6 : Below w4.heap.size w4 w6 := bstep B5 b6
  clear B5 b6
  replace hHeld := KEEP _ B6
  go_wp2_with fail
  refine hK.out _ _ (AllL.kept hHeld) ?_
  clear hK K
  (try simp only [Act.put, putA, putB, putC])
  have hq := between_q r1 r2 (by rw [rq_std, rq_std]; exact HU.out)
  rw [rq_std, rq_std] at hq
  refine late_st 4 rfl (fun K hK => ?_)
  go_simp
  refine (hq).mono ?_
  rintro e w7 ⟨v, rfl, hv, b7⟩
  clear hq r1 r2
  have r3 := hv.rv HS.out.2.2
  clear hv
  obtain ⟨z3, o3, l3, c3, O3, L3, C3, rfl, _, _⟩ := id r3
  have B7 : Below w4.heap.size w4 w7 := bstep B6 b7
  clear B6 b7
  replace hHeld := KEEP _ B7
  go_wp2_with fail
  refine hK.out _ _ (AllL.kept hHeld) ?_
  clear hK K
  (try simp only [Act.put, putA, putB, putC])
  have hq := c_rneg r3.rn (by decide)
  rw [rq_std, ← HZ.out] at hq
  have hbase := Nat.lt_of_lt_of_le hsz B7.size
  refine late_st 5 rfl (fun K hK => ?_)
  go_simp
  refine (hq).mono ?_
  rintro e w8 ⟨v, rfl, hv, b8⟩
  clear hq r3
  obtain ⟨m, d, rfl, hm, hd, hap⟩ := hv
  obtain ⟨mo, ml, mc, rfl⟩ := hm.sl
  obtain ⟨mO, mL, mC, rfl⟩ := hd.sl
  have B8 : Below w4.heap.size w4 w8 := bstep B7 b8
  clear B7 b8
  replace hHeld := KEEP _ B8
  go_wp2_with fail
  refine hK.out _ _ (AllL.kept hHeld) ?_
  clear hK K
  (try simp only [Act.put, putA, putB, putC])
  have qq := qR.below B8
  have HE : Hid (REnd w Z (.returned (.agg #[.bool (decide (Z.num < 0)), .slice mo ml mc, .slice mO mL mC])) (((w8.setCell ⟨g + 1 + 1, 0, none⟩ (.bool (decide (Z.num < 0)))).setCell ⟨g + 1 + 1, 1, none⟩ (.slice mo ml mc)).setCell ⟨g + 1 + 1, 2, none⟩ (.slice mO mL mC))) := rat_done rfl (by rw [HG.out]; omega) hm hd hap hbase (bstep hb B8)
  have HW : Hid (QCell (((w8.setCell ⟨g + 1 + 1, 0, none⟩ (.bool (decide (Z.num < 0)))).setCell ⟨g + 1 + 1, 1, none⟩ (.slice mo ml mc)).setCell ⟨g + 1 + 1, 2, none⟩ (.slice mO mL mC)) (g + 1 + 1) (decide (Z.num < 0)) (.slice mo ml mc) (.slice mO mL mC)) := qq.write _ _ _
  obtain ⟨y0, y1, y2⟩ := qq.cells
  have f0 := qq.thaw 0
  have f1 := qq.thaw 1
  have f2 := qq.thaw 2
  generalize decide (Z.num < 0) = bb at *
  clear qq hm hd hap KEEP
  refine late_st 6 rfl (fun K hK => ?_)
  go_simp
  refine hK.out _ _ ⟨kpt 1, kpt 3, trivial⟩ ?_
  clear hK K
  (try simp only [Act.put, putA, putB, putC])
  refine late_st 7 rfl (fun K hK => ?_)
  go_simp
  refine hK.out _ _ ⟨kpt 1, kpt 3, trivial⟩ ?_
  clear hK K
  (try simp only [Act.put, putA, putB, putC])
  refine late_done (by kernel_rfl) ?_ _
  clear hHeld hb hsz hbase B8 qa qb qR hA hB y0 y1 y2 f0 f1 f2
  go_wp2_with fail
  (try simp only [Exit.inBlock, Exit.then])
  exact bodyPost_ret (results_ct (p := 4) (u := 5) rfl _ _ (g + 1 + 1) 27 _ (0, 0) _ rfl HW.out Tryz.underlying27 rfl (by kernel_rfl)) rfl HE.out.t
theorem sgn_pos {x : Rat} : 0 < sgnQ x ↔ 0 < x.num := by
  unfold sgnQ cmpZ
  split
  · constructor <;> intro h <;> omega
  · split
    · constructor <;> intro h <;> omega
    · constructor <;> intro h <;> omega
theorem sgn_neg {x : Rat} : sgnQ x < 0 ↔ x.num < 0 := by
  unfold sgnQ cmpZ
  split
  · constructor <;> intro h <;> omega
  · split
    · constructor <;> intro h <;> omega
    · constructor <;> intro h <;> omega
theorem simplestF {w : World} {va vb : Value} {p r : Int} {q k : Nat} (h : RV w va p q) (h' : RV w vb r k) (hc : ¬ 0 < cmpQ (rq p q) (rq r k)) : Calls Tryz.prog 12 #[va, vb] w fun e w' => RTEnd w (spQ (rq p q) (rq r k)) e w' := by
  obtain ⟨n, ao, al, ac, bo, bl, bc, rfl, h1, h2⟩ := h
  obtain ⟨n', ao', al', ac', bo', bl', bc', rfl, h1', h2'⟩ := h'
  have hA : RV w (.agg #[.bool n, .slice ao al ac, .slice bo bl bc]) p q := ⟨_, _, _, _, _, _, _, rfl, h1, h2⟩
  have hB : RV w (.agg #[.bool n', .slice ao' al' ac', .slice bo' bl' bc']) r k := ⟨_, _, _, _, _, _, _, rfl, h1', h2'⟩
  unfold spQ
  split
  · rename_i hp
    exact simplest_pos n ao bo al ac bl bc n' ao' bo' al' ac' bl' bc' hA hB hc (sgn_pos.2 hp) hp
  · rename_i hp
    split
    · rename_i hr
      exact simplest_neg n ao bo al ac bl bc n' ao' bo' al' ac' bl' bc' hA hB hc (fun h => hp (sgn_pos.1 h)) (sgn_neg.2 hr) hr
    · rename_i hr
      exact simplest_zero n ao bo al ac bl bc n' ao' bo' al' ac' bl' bc' hA hB hc (fun h => hp (sgn_pos.1 h)) (fun h => hr (sgn_neg.1 h)) 0 rfl
end Go.Proofs.YtfnafgjnimfmjaaGreatDoor
