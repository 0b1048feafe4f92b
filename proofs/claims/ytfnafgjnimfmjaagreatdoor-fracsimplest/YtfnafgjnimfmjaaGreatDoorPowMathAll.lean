/-
  Proved here: what Floor of package whole answers. Proved here: what a step of Bezout in package whole answers. Proved here: what onSideOf of package whole answers; plain facts on Euclid's rows. Proved here: what Bezout of package whole answers.
  Proved here: what Parse of package whole answers. Proved here: alive of credencelaw02 answers yes. Proved here: what the small functions of credencelaw02 answer.
  Proved here: plain facts on texts with a stroke ahead, and on noughts ahead of digits. No condition.
  Proved here: what Same answers of two numbers that are one.
  Proved here: what the plain way's Parse answers.
  Proved here: what Make, Same and Parse of the plain way over whole numbers answer.
  Proved here: what Int of package whole answers of a number that is an int.
  Proved here: what the plain way's ten answers.
  Proved here: what the plain way's Text answers.
  Proved here: what the plain way's Of answers.
  Proved here: what the plain way's Mul answers.
  Proved here: 'apart' of numbers that are what they must be, each in a row of its own, answers true.
  Proved here: what the law's cut answers.
  Proved here: what cut, roomy and kept answer.
  Proved here: plain facts on a bag of numbers that a call made for itself, and 'apart' of such a bag.
  Proved here: what Uint and Sub answer of any numbers, by either way.
  Proved here: what Norm, Neg, Add, Sub, Sign, Cmp, Of, Int and Text of the plain way over whole numbers answer.
  Proved here: plain facts on fractions: how the numbers above and below the line make a fraction, and which is greater. No condition.
  Proved here: what window answers.
  Proved here: what window answers.
  Proved here: plain facts on Euclid's steps that are foreseen (Lehmer, Collins). No condition.
  Proved here: what foresee answers.
  Proved here: plain facts on how many bits powers have. No condition.
-/
import Derived.Test.YtfnafgjnimfmjaaGreatDoorWholeX1All
import Derived.Test.YtfnafgjnimfmjaaGreatDoorLate
import Derived.Test.YtfnafgjnimfmjaaGreatDoorTrimLAll
import Derived.Laws.Strings
import Derived.Test.YtfnafgjnimfmjaaGreatDoorSubAll
import Derived.WalkSmall
import Derived.Laws.BitsAllLaws
namespace Go.Proofs.YtfnafgjnimfmjaaGreatDoor
set_option maxRecDepth 100000
set_option maxHeartbeats 12800000
open Go.RowKit
attribute [local go_sem ↓] Go.wp_at_zero Go.wp_at_succ

theorem INum.sz {w : World} {v : Value} {z : Int} (h : INum w v z) : Sz z 1000000 := by
 obtain ⟨neg, ao, n, cap, xs, rfl, h1, h2, rfl⟩ := h
 exact Sz.of_num h1 h2
theorem rz_le (x y : Int) : (rz x y).natAbs ≤ x.natAbs := by
 unfold rz
 split
 · simp
 · rw [Int.natAbs_tmod]; exact Nat.mod_le _ _
theorem tdiv_le (x y : Int) : (x.tdiv y).natAbs ≤ x.natAbs := by rw [Int.natAbs_tdiv]; exact Nat.div_le_self _ _
theorem INum.mk' {B : Nat} {w : World} {m : Value} {z : Int} (h : Own B 37 w m (lim z.natAbs)) (hs : Sz z 1000000) : INum w (.agg #[.bool (decide (z < 0)), m]) z := IOwn.num ⟨m, rfl, h⟩ hs (Nat.le_refl _)
def fup (x y : Int) : Prop := cmpZ (rz x y) 0 * cmpZ y 0 < 0
instance (x y : Int) : Decidable (fup x y) := inferInstanceAs (Decidable (_ < _))
def fq (x y : Int) : Int := if fup x y then x.tdiv y - 1 else x.tdiv y
def fr (x y : Int) : Int := if fup x y then rz x y + y else rz x y
theorem cmpZ_bd (x y : Int) : cmpZ x y = -1 ∨ cmpZ x y = 0 ∨ cmpZ x y = 1 := by
 unfold cmpZ
 split
 · exact Or.inl rfl
 ·
  split
  · exact Or.inr (Or.inl rfl)
  · exact Or.inr (Or.inr rfl)
theorem icell_keep4 {w : World} {g v v2 : Nat} {n : Bool} {m a0 a1 b0 b1 : Value} (h : ICell w g n m) (h1 : g ≠ v) (h2 : g ≠ v2) : ICell ((((w.setCell ⟨v, 0, none⟩ a0).setCell ⟨v, 1, none⟩ a1).setCell ⟨v2, 0, none⟩ b0).setCell ⟨v2, 1, none⟩ b1) g n m :=
 (((h.other h1 0 _).other h1 1 _).other h2 0 _).other h2 1 _
theorem cmpZ_mul (x y : Int) : -1 ≤ cmpZ x 0 * cmpZ y 0 ∧ cmpZ x 0 * cmpZ y 0 ≤ 1 := by
 rcases cmpZ_bd x 0 with h | h | h <;> rcases cmpZ_bd y 0 with h2 | h2 | h2 <;> rw [h, h2] <;> decide
theorem c_floor {a b : Value} {x y : Int} {w : World} (ha : INum w a x) (hb' : INum w b y) : Calls Tryz.prog 72 #[a, b] w fun e w' => QEnd w (fq x y) (fr x y) (errZ y.natAbs) e w' := by
 obtain ⟨na, ao, al, ac, xa, rfl, ua, la, za⟩ := ha
 have ha : INum w (.agg #[.bool na, .slice ao al ac]) x := ⟨_, _, _, _, _, rfl, ua, la, za⟩
 clear ua la za
 obtain ⟨nb, bo, bl, bc, xb, rfl, ub, lb, zb⟩ := hb'
 have hb' : INum w (.agg #[.bool nb, .slice bo bl bc]) y := ⟨_, _, _, _, _, rfl, ub, lb, zb⟩
 clear ub lb zb
 obtain ⟨W1, hW1⟩ : ∃ W1, W1 = (((w.alloc (.cells #[.bool na, .slice ao al ac] 25)).alloc (.cells #[.bool nb, .slice bo bl bc] 25)).alloc (.cells #[.bool false, .slice none 0 0] 25)).alloc (.cells #[.bool false, .slice none 0 0] 25) := ⟨_, rfl⟩
 have q0 : ICell W1 (w.heap.size) na (.slice ao al ac) := by rw [hW1]; exact (icell_step (icell_step (icell_step (icell_new _ (by simp)))))
 have q1 : ICell W1 (w.heap.size + 1) nb (.slice bo bl bc) := by rw [hW1]; exact (icell_step (icell_step (icell_new _ (by simp))))
 have q2 : ICell W1 (w.heap.size + 1 + 1) false (.slice none 0 0) := by rw [hW1]; exact (icell_step (icell_new _ (by simp)))
 have q3 : ICell W1 (w.heap.size + 1 + 1 + 1) false (.slice none 0 0) := by rw [hW1]; exact (icell_new _ (by simp))
 have hb : Below w.heap.size w W1 := by rw [hW1]; exact bstep (bstep (bstep (belowA w _) (belowA _ _)) (belowA _ _)) (belowA _ _)
 have hsz : w.heap.size + 1 + 1 + 1 < W1.heap.size := by rw [hW1]; simp
 replace ha := ha.below hb
 replace hb' := hb'.below hb
 have HW1 : Hid (W1 = (((w.alloc (.cells #[.bool na, .slice ao al ac] 25)).alloc (.cells #[.bool nb, .slice bo bl bc] 25)).alloc (.cells #[.bool false, .slice none 0 0] 25)).alloc (.cells #[.bool false, .slice none 0 0] 25)) := hW1
 clear hW1
 obtain ⟨FQ, hFQ⟩ : ∃ Q, Q = fq x y := ⟨_, rfl⟩
 obtain ⟨FR, hFR⟩ : ∃ R, R = fr x y := ⟨_, rfl⟩
 have HFQ : Hid (FQ = fq x y) := hFQ
 have HFR : Hid (FR = fr x y) := hFR
 rw [← hFQ, ← hFR]
 clear hFQ hFR
 obtain ⟨E, hE⟩ : ∃ E, E = errZ y.natAbs := ⟨_, rfl⟩
 have HEE : Hid (E = errZ y.natAbs) := hE
 rw [← hE]
 clear hE
 go_enter Tryz.func72, Tryz.ntmps72
 go_wp2_with fail
 rw [← HW1.out]
 clear HW1
 obtain ⟨g, hg⟩ : ∃ g, g = w.heap.size := ⟨_, rfl⟩
 rw [← hg] at q0 q1 q2 q3 hsz ⊢
 have HG : Hid (g = w.heap.size) := hg
 clear hg
 refine (c_quo ha hb').mono ?_
 rintro e w2 ⟨mq, mr, rfl, hq, hr, hqr, hb2⟩
 obtain ⟨qo, ql, qc, rfl⟩ := hq.sl
 obtain ⟨ro, rl, rc, rfl⟩ := hr.sl
 rw [← HEE.out]
 obtain ⟨Q, hQ⟩ : ∃ Q, Q = x.tdiv y := ⟨_, rfl⟩
 obtain ⟨R, hR⟩ : ∃ R, R = rz x y := ⟨_, rfl⟩
 have HQ : Hid (Q = x.tdiv y) := hQ
 have HR : Hid (R = rz x y) := hR
 have sQ : Sz Q 1000000 := by rw [hQ]; exact ha.sz.le (tdiv_le x y)
 have sR : Sz R 1000000 := by rw [hR]; exact ha.sz.le (rz_le x y)
 rw [← hQ, ← hR]
 rw [← hQ] at hq
 rw [← hR] at hr
 clear hQ hR
 have iQ := INum.mk' hq sQ
 have iR := INum.mk' hr sR
 obtain ⟨bq, hbq⟩ : ∃ b, b = decide (Q < 0) := ⟨_, rfl⟩
 obtain ⟨br, hbr⟩ : ∃ b, b = decide (R < 0) := ⟨_, rfl⟩
 have HBQ : Hid (bq = decide (Q < 0)) := hbq
 have HBR : Hid (br = decide (R < 0)) := hbr
 rw [← hbq] at iQ
 rw [← hbr] at iR
 rw [← hbq, ← hbr]
 clear hbq hbr
 replace q1 := q1.below hb2
 replace q2 := q2.below hb2
 replace q3 := q3.below hb2
 replace hb := bstep hb hb2
 replace hb' := hb'.below hb2
 have HSZ : Hid (g + 1 + 1 + 1 < W1.heap.size) := hsz
 have hsz2 := Nat.lt_of_lt_of_le hsz hb2.size
 have HL2 : Hid (W1.heap.size ≤ w2.heap.size) := hb2.size
 clear hsz hb2 ha q0
 obtain ⟨W3, hW3⟩ : ∃ W3, W3 = (w2.alloc (.cells #[.bool bq, .slice qo ql qc] 25)).alloc (.cells #[.bool br, .slice ro rl rc] 25) := ⟨_, rfl⟩
 have p0 : ICell W3 (w2.heap.size) bq (.slice qo ql qc) := by rw [hW3]; exact icell_step (icell_new _ rfl)
 have p1 : ICell W3 (w2.heap.size + 1) br (.slice ro rl rc) := by rw [hW3]; exact icell_new _ (by simp)
 have hb3 : Below w2.heap.size w2 W3 := by rw [hW3]; exact bstep (belowA w2 _) (belowA _ _)
 have hsz3 : w2.heap.size + 1 < W3.heap.size := by rw [hW3]; simp
 replace q1 := q1.below hb3
 replace q2 := q2.below hb3
 replace q3 := q3.below hb3
 replace hb := bstep hb hb3
 replace hb' := hb'.below hb3
 replace iQ := iQ.below hb3
 replace iR := iR.below hb3
 replace hq := hq.below hb3
 replace hr := hr.below hb3
 have HLW0 : Hid (W1.heap.size ≤ W3.heap.size) := Nat.le_trans HL2.out hb3.size
 have HW3 : Hid (W3 = (w2.alloc (.cells #[.bool bq, .slice qo ql qc] 25)).alloc (.cells #[.bool br, .slice ro rl rc] 25)) := hW3
 clear hW3 hb3
 obtain ⟨v, hv⟩ : ∃ v, v = w2.heap.size := ⟨_, rfl⟩
 rw [← hv] at p0 p1 hsz2 hsz3
 have HV : Hid (v = w2.heap.size) := hv
 by_cases hy : y = 0
 ·
  have HZ0 : Hid (E = 11 ∧ Q = FQ ∧ R = FR) := by
   have h0 : rz x y = 0 := by unfold rz; rw [if_pos hy]
   have h1 : ¬ fup x y := by unfold fup; rw [h0]; simp [cmpZ]
   exact ⟨by rw [HEE.out, hy]; rfl, by rw [HQ.out, HFQ.out]; unfold fq; rw [if_neg h1], by rw [HR.out, HFR.out]; unfold fr; rw [if_neg h1]⟩
  obtain ⟨hE0, hQ0, hR0⟩ := HZ0.out
  subst hE0
  subst hQ0
  subst hR0
  clear HZ0 hy
  go_wp2_with fail
  rw [← HW3.out, ← hv]
  clear hv
  go_region
  go_wp2_with fail
  have p0' : ICell W3.drew v bq (.slice qo ql qc) := p0
  have p1' : ICell W3.drew (v + 1) br (.slice ro rl rc) := p1
  have q2' : ICell W3.drew (g + 1 + 1) false (.slice none 0 0) := q2
  have q3' : ICell W3.drew (g + 1 + 1 + 1) false (.slice none 0 0) := q3
  have hq' := hq.same (w' := W3.drew) rfl
  have hr' := hr.same (w' := W3.drew) rfl
  have hbn := bstep hb (below_drew' _)
  generalize W3.drew = W4 at *
  clear p0 p1 q2 q3 hq hr hb
  obtain ⟨e0, e1⟩ := p0'.cells
  obtain ⟨e2, e3⟩ := p1'.cells
  obtain ⟨y20, y21⟩ := q2'.cells
  obtain ⟨y30, y31⟩ := q3'.cells
  have f20 := q2'.thaw 0
  have f21 := q2'.thaw 1
  have f30 := q3'.thaw 0
  have f31 := q3'.thaw 1
  have hne1 : ¬ v = g + 1 + 1 := by omega
  have hne2 : ¬ v = g + 1 + 1 + 1 := by omega
  have hne3 : ¬ v + 1 = g + 1 + 1 := by omega
  have hne4 : ¬ v + 1 = g + 1 + 1 + 1 := by omega
  have HW := icell_two (k1 := bq) (k2 := br) (v1 := .slice qo ql qc) (v2 := .slice ro rl rc) (show ICell W4.drew (g + 1 + 1) false (.slice none 0 0) from q2') (show ICell W4.drew (g + 1 + 1 + 1) false (.slice none 0 0) from q3') (by omega)
  have HW2 : Hid _ := HW
  clear HW
  have HE0 := quo_done (w := w) (wr := W4.drew) (B := W1.heap.size) (q := Q) (r := R) (er := 11) (g := g + 1 + 1) (g2 := g + 1 + 1 + 1) (v0 := .bool bq) (v1 := .slice qo ql qc) (u0 := .bool br) (u1 := .slice ro rl rc) (hq'.same rfl) (hr'.same rfl) hqr (by rw [HG.out]; omega) (by rw [HG.out]; omega) (by have := HSZ.out; omega) HSZ.out (bstep hbn (below_drew' _))
  rw [← HBQ.out, ← HBR.out] at HE0
  have HE : Hid (QEnd w Q R 11 _ _) := HE0
  clear HE0
  refine region_late [(0, fun w' => w'.cell? ⟨v, 0, none⟩ = some (.bool bq) ∧ w'.cell? ⟨v, 1, none⟩ = some (.slice qo ql qc)), (1, fun w' => w'.cell? ⟨v + 1, 0, none⟩ = some (.bool br) ∧ w'.cell? ⟨v + 1, 1, none⟩ = some (.slice ro rl rc)), (2, fun _ => True)] (by kernel_rfl) ?_
  have hHeld : AllL W4.drew [(0, fun w' => w'.cell? ⟨v, 0, none⟩ = some (.bool bq) ∧ w'.cell? ⟨v, 1, none⟩ = some (.slice qo ql qc)), (1, fun w' => w'.cell? ⟨v + 1, 0, none⟩ = some (.bool br) ∧ w'.cell? ⟨v + 1, 1, none⟩ = some (.slice ro rl rc)), (2, fun _ => True)] := ⟨(show ICell W4.drew v bq (.slice qo ql qc) from p0').cells, (show ICell W4.drew (v + 1) br (.slice ro rl rc) from p1').cells, trivial, trivial⟩
  refine late_tk 0 (v := .agg #[.bool bq, .slice qo ql qc]) rfl (List.Mem.head _) (Or.inl ⟨by rfl, ?_⟩) hHeld ?_
  · (intro u hu; (try dsimp only at hu); go_split_ands; go_simp)
  try simp only [pu1, pu2, pu3, pu4]
  refine late_tk 1 (v := .agg #[.bool br, .slice ro rl rc]) rfl (List.Mem.tail _ (List.Mem.head _)) (Or.inl ⟨by rfl, ?_⟩) hHeld ?_
  · (intro u hu; (try dsimp only at hu); go_split_ands; go_simp)
  try simp only [pu1, pu2, pu3, pu4]
  refine late_tk 2 (v := .int .i64 11) rfl (List.Mem.tail _ (List.Mem.tail _ (List.Mem.head _))) (Or.inl ⟨by rfl, ?_⟩) hHeld ?_
  · (intro u hu; (try dsimp only at hu); go_split_ands; go_simp)
  try simp only [pu1, pu2, pu3, pu4]
  refine late_st 3 rfl (fun K hK => ?_)
  go_simp
  refine hK.out _ _ ⟨kpt 3, Or.inr ⟨keepS hne3 hHeld.2.1.1, keepS hne3 hHeld.2.1.2⟩, Or.inr trivial, trivial⟩ ?_
  clear hK K
  try simp only [pu1, pu2, pu3, pu4]
  refine late_st 4 rfl (fun K hK => ?_)
  go_simp
  refine hK.out _ _ ⟨kpt 3, kpt 4, Or.inr trivial, trivial⟩ ?_
  clear hK K
  try simp only [pu1, pu2, pu3, pu4]
  refine late_st 5 rfl (fun K hK => ?_)
  go_simp
  refine hK.out _ _ ⟨kpt 3, kpt 4, kpt 5, trivial⟩ ?_
  clear hK K
  try simp only [pu1, pu2, pu3, pu4]
  refine late_done (by kernel_rfl) ?_ _
  clear e0 e1 e2 e3 y20 y21 y30 y31 f20 f21 f30 f31 hHeld
  go_wp2_with fail
  (try simp only [Exit.inBlock, Exit.then])
  exact bodyPost_ret (results_cct (p := 4) (q := 5) (u := 6) rfl _ _ (g + 1 + 1) (g + 1 + 1 + 1) 25 25 _ _ (0, 0) (0, 0) _ rfl rfl HW2.out.1 HW2.out.2 Tryz.underlying25 rfl (by kernel_rfl) (by kernel_rfl)) rfl HE.out
 ·
  have HZ0 : Hid (E = 0) := by show _ = _; rw [HEE.out]; unfold errZ; rw [if_neg (by omega)]
  have hE0 := HZ0.out
  subst hE0
  clear HZ0
  obtain ⟨s1, hs1⟩ : ∃ s, s = cmpZ R 0 := ⟨_, rfl⟩
  obtain ⟨s2, hs2⟩ : ∃ s, s = cmpZ y 0 := ⟨_, rfl⟩
  obtain ⟨p, hp⟩ : ∃ p, p = s1 * s2 := ⟨_, rfl⟩
  have hpb : -1 ≤ p ∧ p ≤ 1 := by rw [hp, hs1, hs2]; exact cmpZ_mul R y
  have HS1 : Hid (cmpZ R 0 = s1) := hs1.symm
  have HS2 : Hid (cmpZ y 0 = s2) := hs2.symm
  have HP : Hid (fup x y ↔ p < 0) := by show _ ↔ _; unfold fup; rw [← HR.out, hp, hs1, hs2]
  have hw : IntKind.i64.wrap (s1 * s2) = p := by rw [← hp, IntKind.wrap_i64]; omega
  clear hs1 hs2 hp hy
  go_wp2_with fail
  rw [← HW3.out, ← hv]
  clear hv
  obtain ⟨c1, d1⟩ := q1.cells
  obtain ⟨e0, e1⟩ := p0.cells
  obtain ⟨e2, e3⟩ := p1.cells
  by_cases hp0 : p < 0
  ·
   go_region_held3 (fun w' => w'.cell? ⟨g + 1, 0, none⟩ = some (.bool nb) ∧ w'.cell? ⟨g + 1, 1, none⟩ = some (.slice bo bl bc) ∧ w'.cell? ⟨v + 1, 0, none⟩ = some (.bool br) ∧ w'.cell? ⟨v + 1, 1, none⟩ = some (.slice ro rl rc)) (((try dsimp only); go_split_ands; refine ⟨?_, ?_, ?_, ?_⟩ <;> first | exact keepB (by with_reducible assumption) (by with_reducible assumption) | go_keep)) (first
   | (go_at_call_of 71 ro; refine (c_sign (iR.below (below_drew' _))).mono ?_; rw [HS1.out]; rintro e w4 ⟨rfl, hb4⟩)
   | (go_at_call_of 71 bo; refine (c_sign ((hb'.below (below_drew' _)).below hb4)).mono ?_; rw [HS2.out]; rintro e w5 ⟨rfl, hb5⟩))
   go_wp2_with fail
   have hb45 := bstep (below_drew' _) (bstep hb4 hb5)
   replace q1 := q1.below hb45
   replace q2 := q2.below hb45
   replace q3 := q3.below hb45
   replace p0 := p0.below hb45
   replace p1 := p1.below hb45
   replace hb := bstep hb hb45
   replace hq := hq.below hb45
   replace hr := hr.below hb45
   replace iQ := iQ.below hb45
   replace iR := iR.below hb45
   replace hb' := hb'.below hb45
   have HLW : Hid (W1.heap.size ≤ w5.heap.size) := Nat.le_trans HLW0.out hb45.size
   replace hsz3 := Nat.lt_of_lt_of_le hsz3 hb45.size
   clear c1 d1 e0 e1 e2 e3 hb4 hb5 hb45 hw
   have HFQ2 : Hid (Q - 1 = FQ) := by show _ = _; rw [HQ.out, HFQ.out]; unfold fq; rw [if_pos (HP.out.2 hp0)]
   have HFR2 : Hid (R + y = FR) := by show _ = _; rw [HR.out, HFR.out]; unfold fr; rw [if_pos (HP.out.2 hp0)]
   clear hp0
   have HP0 : Hid (ICell w5.drew v bq (.slice qo ql qc) ∧ ICell w5.drew (v + 1) br (.slice ro rl rc) ∧ ICell w5.drew (g + 1) nb (.slice bo bl bc)) := ⟨p0, p1, q1⟩
   refine region_late [(0, fun w' => w'.cell? ⟨v, 0, none⟩ = some (.bool bq) ∧ w'.cell? ⟨v, 1, none⟩ = some (.slice qo ql qc)), (3, fun w' => w'.cell? ⟨v + 1, 0, none⟩ = some (.bool br) ∧ w'.cell? ⟨v + 1, 1, none⟩ = some (.slice ro rl rc)), (4, fun w' => w'.cell? ⟨g + 1, 0, none⟩ = some (.bool nb) ∧ w'.cell? ⟨g + 1, 1, none⟩ = some (.slice bo bl bc))] (by kernel_rfl) ?_
   have hHeld : AllL w5.drew [(0, fun w' => w'.cell? ⟨v, 0, none⟩ = some (.bool bq) ∧ w'.cell? ⟨v, 1, none⟩ = some (.slice qo ql qc)), (3, fun w' => w'.cell? ⟨v + 1, 0, none⟩ = some (.bool br) ∧ w'.cell? ⟨v + 1, 1, none⟩ = some (.slice ro rl rc)), (4, fun w' => w'.cell? ⟨g + 1, 0, none⟩ = some (.bool nb) ∧ w'.cell? ⟨g + 1, 1, none⟩ = some (.slice bo bl bc))] := ⟨HP0.out.1.cells, HP0.out.2.1.cells, HP0.out.2.2.cells, trivial⟩
   refine late_tk 0 (v := .agg #[.bool bq, .slice qo ql qc]) rfl (List.Mem.head _) (Or.inl ⟨by rfl, ?_⟩) hHeld ?_
   · (intro u hu; (try dsimp only at hu); go_split_ands; go_simp)
   try simp only [pu1, pu2, pu3, pu4]
   refine late_tk 3 (v := .agg #[.bool br, .slice ro rl rc]) rfl (List.Mem.tail _ (List.Mem.head _)) (Or.inl ⟨by rfl, ?_⟩) hHeld ?_
   · (intro u hu; (try dsimp only at hu); go_split_ands; go_simp)
   try simp only [pu1, pu2, pu3, pu4]
   refine late_tk 4 (v := .agg #[.bool nb, .slice bo bl bc]) rfl (List.Mem.tail _ (List.Mem.tail _ (List.Mem.head _))) (Or.inl ⟨by rfl, ?_⟩) hHeld ?_
   · (intro u hu; (try dsimp only at hu); go_split_ands; go_simp)
   try simp only [pu1, pu2, pu3, pu4]
   refine late_st 1 rfl (fun K hK => ?_)
   go_simp
   refine (c_of (by decide) (by decide)).mono ?_
   rintro e w6 ⟨o, rfl, ho, hb6⟩
   have io := ho.num Sz.one (by decide)
   obtain ⟨on, oo, ol, oc, ox, rfl, ou, oll, oz⟩ := io
   have io : INum w6 (.agg #[.bool on, .slice oo ol oc]) 1 := ⟨_, _, _, _, _, rfl, ou, oll, oz⟩
   clear ho ou oll oz
   go_wp2_with fail
   refine hK.out _ _ (AllL.kept ⟨(HP0.out.1.below hb6).cells, (HP0.out.2.1.below hb6).cells, (HP0.out.2.2.below hb6).cells, trivial⟩) ?_
   clear hK K
   try simp only [pu1, pu2, pu3, pu4]
   refine late_st 2 rfl (fun K hK => ?_)
   go_simp
   refine (c_sub ((iQ.below (below_drew' _)).below hb6) io).mono ?_
   rw [HFQ2.out]
   rintro e w7 ⟨s, rfl, hs, hb7⟩
   obtain ⟨ms, rfl, hms⟩ := hs
   obtain ⟨so, sl, sc, rfl⟩ := hms.sl
   go_wp2_with fail
   refine hK.out _ _ (AllL.kept ⟨((HP0.out.1.below hb6).below hb7).cells, ((HP0.out.2.1.below hb6).below hb7).cells, ((HP0.out.2.2.below hb6).below hb7).cells, trivial⟩) ?_
   clear hK K
   try simp only [pu1, pu2, pu3, pu4]
   refine late_st 5 rfl (fun K hK => ?_)
   go_simp
   refine (c_add (((iR.below (below_drew' _)).below hb6).below hb7) (((hb'.below (below_drew' _)).below hb6).below hb7)).mono ?_
   rw [HFR2.out]
   rintro e w8 ⟨s, rfl, hs, hb8⟩
   obtain ⟨mt, rfl, hmt⟩ := hs
   obtain ⟨to, tl, tc, rfl⟩ := hmt.sl
   go_wp2_with fail
   refine hK.out _ _ (AllL.kept ⟨(((HP0.out.1.below hb6).below hb7).below hb8).cells, (((HP0.out.2.1.below hb6).below hb7).below hb8).cells, (((HP0.out.2.2.below hb6).below hb7).below hb8).cells, trivial⟩) ?_
   clear hK K
   try simp only [pu1, pu2, pu3, pu4]
   have hb68 := bstep (below_drew' _) (bstep hb6 (bstep hb7 hb8))
   have pp0 := p0.below hb68
   have pp1 := p1.below hb68
   obtain ⟨i0, i1⟩ := pp0.cells
   obtain ⟨i2, i3⟩ := pp1.cells
   have f0 := pp0.thaw 0
   have f1 := pp0.thaw 1
   have f2 := pp1.thaw 0
   have f3 := pp1.thaw 1
   have hap := apart_later hms hmt (Nat.le_refl _)
   obtain ⟨bq2, hbq2⟩ : ∃ b, b = decide (FQ < 0) := ⟨_, rfl⟩
   obtain ⟨br2, hbr2⟩ : ∃ b, b = decide (FR < 0) := ⟨_, rfl⟩
   have HBQ2 : Hid (bq2 = decide (FQ < 0)) := hbq2
   have HBR2 : Hid (br2 = decide (FR < 0)) := hbr2
   rw [← hbq2, ← hbr2]
   clear hbq2 hbr2
   have hle6 : w5.heap.size ≤ w6.heap.size := Nat.le_trans (below_drew' _).size hb6.size
   have hle7 := hb7.size
   have hleW : W1.heap.size ≤ w5.heap.size := HLW.out
   have hv6 : v + 1 < w6.heap.size := by omega
   have hq2 := (own_far (v0 := .bool bq2) (v1 := .slice so sl sc) (u0 := .bool br2) (u1 := .slice to tl tc) (hms.below hb8) (g := v) (g2 := v + 1) (by omega) (by omega)).mono (B' := W1.heap.size) (by omega)
   have hr2 := (own_far (v0 := .bool bq2) (v1 := .slice so sl sc) (u0 := .bool br2) (u1 := .slice to tl tc) hmt (g := v) (g2 := v + 1) (by omega) (by omega)).mono (B' := W1.heap.size) (by omega)
   have cq2 := icell_keep4 (a0 := .bool bq2) (a1 := .slice so sl sc) (b0 := .bool br2) (b1 := .slice to tl tc) (q2.below hb68) (v := v) (v2 := v + 1) (by omega) (by omega)
   have cq3 := icell_keep4 (a0 := .bool bq2) (a1 := .slice so sl sc) (b0 := .bool br2) (b1 := .slice to tl tc) (q3.below hb68) (v := v) (v2 := v + 1) (by omega) (by omega)
   have cpp := icell_two (k1 := bq2) (k2 := br2) (v1 := .slice so sl sc) (v2 := .slice to tl tc) pp0 pp1 (by omega)
   have hbF := below_far (v0 := .bool bq2) (v1 := .slice so sl sc) (u0 := .bool br2) (u1 := .slice to tl tc) (bstep hb hb68) (g := v) (g2 := v + 1) (by rw [HG.out] at hsz2; omega) (by rw [HG.out] at hsz2; omega)
   refine late_st 6 rfl (fun K hK => ?_)
   go_simp
   refine hK.out _ _ ⟨kpt 6, kpt 5, kpt 5, trivial⟩ ?_
   clear hK K
   try simp only [pu1, pu2, pu3, pu4]
   refine late_st 7 rfl (fun K hK => ?_)
   go_simp
   refine hK.out _ _ ⟨kpt 6, kpt 5, kpt 5, trivial⟩ ?_
   clear hK K
   try simp only [pu1, pu2, pu3, pu4]
   refine late_done (by kernel_rfl) ?_ _
   obtain ⟨WF, hWF⟩ : ∃ WF, WF = ((((w8.setCell ⟨v, 0, none⟩ (.bool bq2)).setCell ⟨v, 1, none⟩ (.slice so sl sc)).setCell ⟨v + 1, 0, none⟩ (.bool br2)).setCell ⟨v + 1, 1, none⟩ (.slice to tl tc)) := ⟨_, rfl⟩
   rw [← hWF] at hq2 hr2 cq2 cq3 cpp hbF ⊢
   obtain ⟨cp0, cp1⟩ := cpp
   clear hWF i0 i1 i2 i3 f0 f1 f2 f3 pp0 pp1 hHeld hms hmt hb6 hb7 hb8 hb68 p0 p1 q1 q2 q3 hq hr io iQ iR hb' hb hqr
   go_wp2_with fail
   obtain ⟨e0, e1⟩ := cp0.cells
   obtain ⟨e2, e3⟩ := cp1.cells
   obtain ⟨y20, y21⟩ := cq2.cells
   obtain ⟨y30, y31⟩ := cq3.cells
   have f20 := cq2.thaw 0
   have f21 := cq2.thaw 1
   have f30 := cq3.thaw 0
   have f31 := cq3.thaw 1
   have hne1 : ¬ v = g + 1 + 1 := by omega
   have hne2 : ¬ v = g + 1 + 1 + 1 := by omega
   have hne3 : ¬ v + 1 = g + 1 + 1 := by omega
   have hne4 : ¬ v + 1 = g + 1 + 1 + 1 := by omega
   have HW := icell_two (k1 := bq2) (k2 := br2) (v1 := .slice so sl sc) (v2 := .slice to tl tc) (show ICell WF.drew (g + 1 + 1) false (.slice none 0 0) from cq2) (show ICell WF.drew (g + 1 + 1 + 1) false (.slice none 0 0) from cq3) (by omega)
   have HW2 : Hid _ := HW
   clear HW
   have HE0 := quo_done (w := w) (wr := WF.drew) (B := W1.heap.size) (q := FQ) (r := FR) (er := 0) (g := g + 1 + 1) (g2 := g + 1 + 1 + 1) (v0 := .bool bq2) (v1 := .slice so sl sc) (u0 := .bool br2) (u1 := .slice to tl tc) (hq2.same rfl) (hr2.same rfl) hap (by rw [HG.out]; omega) (by rw [HG.out]; omega) (by have := HSZ.out; omega) HSZ.out (bstep hbF (below_drew' _))
   rw [← HBQ2.out, ← HBR2.out] at HE0
   have HE : Hid (QEnd w FQ FR 0 _ _) := HE0
   clear HE0
   refine region_late [(0, fun w' => w'.cell? ⟨v, 0, none⟩ = some (.bool bq2) ∧ w'.cell? ⟨v, 1, none⟩ = some (.slice so sl sc)), (1, fun w' => w'.cell? ⟨v + 1, 0, none⟩ = some (.bool br2) ∧ w'.cell? ⟨v + 1, 1, none⟩ = some (.slice to tl tc)), (2, fun _ => True)] (by kernel_rfl) ?_
   have hHeld : AllL WF.drew [(0, fun w' => w'.cell? ⟨v, 0, none⟩ = some (.bool bq2) ∧ w'.cell? ⟨v, 1, none⟩ = some (.slice so sl sc)), (1, fun w' => w'.cell? ⟨v + 1, 0, none⟩ = some (.bool br2) ∧ w'.cell? ⟨v + 1, 1, none⟩ = some (.slice to tl tc)), (2, fun _ => True)] := ⟨(show ICell WF.drew v bq2 (.slice so sl sc) from cp0).cells, (show ICell WF.drew (v + 1) br2 (.slice to tl tc) from cp1).cells, trivial, trivial⟩
   refine late_tk 0 (v := .agg #[.bool bq2, .slice so sl sc]) rfl (List.Mem.head _) (Or.inl ⟨by rfl, ?_⟩) hHeld ?_
   · (intro u hu; (try dsimp only at hu); go_split_ands; go_simp)
   try simp only [pu1, pu2, pu3, pu4]
   refine late_tk 1 (v := .agg #[.bool br2, .slice to tl tc]) rfl (List.Mem.tail _ (List.Mem.head _)) (Or.inl ⟨by rfl, ?_⟩) hHeld ?_
   · (intro u hu; (try dsimp only at hu); go_split_ands; go_simp)
   try simp only [pu1, pu2, pu3, pu4]
   refine late_tk 2 (v := .int .i64 0) rfl (List.Mem.tail _ (List.Mem.tail _ (List.Mem.head _))) (Or.inl ⟨by rfl, ?_⟩) hHeld ?_
   · (intro u hu; (try dsimp only at hu); go_split_ands; go_simp)
   try simp only [pu1, pu2, pu3, pu4]
   refine late_st 3 rfl (fun K hK => ?_)
   go_simp
   refine hK.out _ _ ⟨kpt 3, Or.inr ⟨keepS hne3 hHeld.2.1.1, keepS hne3 hHeld.2.1.2⟩, Or.inr trivial, trivial⟩ ?_
   clear hK K
   try simp only [pu1, pu2, pu3, pu4]
   refine late_st 4 rfl (fun K hK => ?_)
   go_simp
   refine hK.out _ _ ⟨kpt 3, kpt 4, Or.inr trivial, trivial⟩ ?_
   clear hK K
   try simp only [pu1, pu2, pu3, pu4]
   refine late_st 5 rfl (fun K hK => ?_)
   go_simp
   refine hK.out _ _ ⟨kpt 3, kpt 4, kpt 5, trivial⟩ ?_
   clear hK K
   try simp only [pu1, pu2, pu3, pu4]
   refine late_done (by kernel_rfl) ?_ _
   clear e0 e1 e2 e3 y20 y21 y30 y31 f20 f21 f30 f31 hHeld
   go_wp2_with fail
   (try simp only [Exit.inBlock, Exit.then])
   exact bodyPost_ret (results_cct (p := 4) (q := 5) (u := 6) rfl _ _ (g + 1 + 1) (g + 1 + 1 + 1) 25 25 _ _ (0, 0) (0, 0) _ rfl rfl HW2.out.1 HW2.out.2 Tryz.underlying25 rfl (by kernel_rfl) (by kernel_rfl)) rfl HE.out
  ·
   go_region_held3 (fun w' => w'.cell? ⟨g + 1, 0, none⟩ = some (.bool nb) ∧ w'.cell? ⟨g + 1, 1, none⟩ = some (.slice bo bl bc) ∧ w'.cell? ⟨v + 1, 0, none⟩ = some (.bool br) ∧ w'.cell? ⟨v + 1, 1, none⟩ = some (.slice ro rl rc)) (((try dsimp only); go_split_ands; refine ⟨?_, ?_, ?_, ?_⟩ <;> first | exact keepB (by with_reducible assumption) (by with_reducible assumption) | go_keep)) (first
   | (go_at_call_of 71 ro; refine (c_sign (iR.below (below_drew' _))).mono ?_; rw [HS1.out]; rintro e w4 ⟨rfl, hb4⟩)
   | (go_at_call_of 71 bo; refine (c_sign ((hb'.below (below_drew' _)).below hb4)).mono ?_; rw [HS2.out]; rintro e w5 ⟨rfl, hb5⟩))
   go_wp2_with fail
   have hb45 := bstep (below_drew' _) (bstep hb4 hb5)
   replace q1 := q1.below hb45
   replace q2 := q2.below hb45
   replace q3 := q3.below hb45
   replace p0 := p0.below hb45
   replace p1 := p1.below hb45
   replace hb := bstep hb hb45
   replace hq := hq.below hb45
   replace hr := hr.below hb45
   replace iQ := iQ.below hb45
   replace iR := iR.below hb45
   replace hb' := hb'.below hb45
   have HLW : Hid (W1.heap.size ≤ w5.heap.size) := Nat.le_trans HLW0.out hb45.size
   replace hsz3 := Nat.lt_of_lt_of_le hsz3 hb45.size
   clear c1 d1 e0 e1 e2 e3 hb4 hb5 hb45 hw
   have HFQ2 : Hid (Q = FQ) := by show _ = _; rw [HQ.out, HFQ.out]; unfold fq; rw [if_neg (fun h => by have := HP.out.1 h; omega)]
   have HFR2 : Hid (R = FR) := by show _ = _; rw [HR.out, HFR.out]; unfold fr; rw [if_neg (fun h => by have := HP.out.1 h; omega)]
   obtain hQ0 := HFQ2.out
   obtain hR0 := HFR2.out
   subst hQ0
   subst hR0
   clear hp0
   obtain ⟨e0, e1⟩ := p0.cells
   obtain ⟨e2, e3⟩ := p1.cells
   obtain ⟨y20, y21⟩ := q2.cells
   obtain ⟨y30, y31⟩ := q3.cells
   have f20 := q2.thaw 0
   have f21 := q2.thaw 1
   have f30 := q3.thaw 0
   have f31 := q3.thaw 1
   have hne1 : ¬ v = g + 1 + 1 := by omega
   have hne2 : ¬ v = g + 1 + 1 + 1 := by omega
   have hne3 : ¬ v + 1 = g + 1 + 1 := by omega
   have hne4 : ¬ v + 1 = g + 1 + 1 + 1 := by omega
   have HW := icell_two (k1 := bq) (k2 := br) (v1 := .slice qo ql qc) (v2 := .slice ro rl rc) (show ICell w5.drew (g + 1 + 1) false (.slice none 0 0) from q2) (show ICell w5.drew (g + 1 + 1 + 1) false (.slice none 0 0) from q3) (by omega)
   have HW2 : Hid _ := HW
   clear HW
   have HE0 := quo_done (w := w) (wr := w5.drew) (B := W1.heap.size) (q := Q) (r := R) (er := 0) (g := g + 1 + 1) (g2 := g + 1 + 1 + 1) (v0 := .bool bq) (v1 := .slice qo ql qc) (u0 := .bool br) (u1 := .slice ro rl rc) (hq.same rfl) (hr.same rfl) hqr (by rw [HG.out]; omega) (by rw [HG.out]; omega) (by have := HSZ.out; omega) HSZ.out (bstep hb (below_drew' _))
   rw [← HBQ.out, ← HBR.out] at HE0
   have HE : Hid (QEnd w Q R 0 _ _) := HE0
   clear HE0
   refine region_late [(0, fun w' => w'.cell? ⟨v, 0, none⟩ = some (.bool bq) ∧ w'.cell? ⟨v, 1, none⟩ = some (.slice qo ql qc)), (1, fun w' => w'.cell? ⟨v + 1, 0, none⟩ = some (.bool br) ∧ w'.cell? ⟨v + 1, 1, none⟩ = some (.slice ro rl rc)), (2, fun _ => True)] (by kernel_rfl) ?_
   have hHeld : AllL w5.drew [(0, fun w' => w'.cell? ⟨v, 0, none⟩ = some (.bool bq) ∧ w'.cell? ⟨v, 1, none⟩ = some (.slice qo ql qc)), (1, fun w' => w'.cell? ⟨v + 1, 0, none⟩ = some (.bool br) ∧ w'.cell? ⟨v + 1, 1, none⟩ = some (.slice ro rl rc)), (2, fun _ => True)] := ⟨(show ICell w5.drew v bq (.slice qo ql qc) from p0).cells, (show ICell w5.drew (v + 1) br (.slice ro rl rc) from p1).cells, trivial, trivial⟩
   refine late_tk 0 (v := .agg #[.bool bq, .slice qo ql qc]) rfl (List.Mem.head _) (Or.inl ⟨by rfl, ?_⟩) hHeld ?_
   · (intro u hu; (try dsimp only at hu); go_split_ands; go_simp)
   try simp only [pu1, pu2, pu3, pu4]
   refine late_tk 1 (v := .agg #[.bool br, .slice ro rl rc]) rfl (List.Mem.tail _ (List.Mem.head _)) (Or.inl ⟨by rfl, ?_⟩) hHeld ?_
   · (intro u hu; (try dsimp only at hu); go_split_ands; go_simp)
   try simp only [pu1, pu2, pu3, pu4]
   refine late_tk 2 (v := .int .i64 0) rfl (List.Mem.tail _ (List.Mem.tail _ (List.Mem.head _))) (Or.inl ⟨by rfl, ?_⟩) hHeld ?_
   · (intro u hu; (try dsimp only at hu); go_split_ands; go_simp)
   try simp only [pu1, pu2, pu3, pu4]
   refine late_st 3 rfl (fun K hK => ?_)
   go_simp
   refine hK.out _ _ ⟨kpt 3, Or.inr ⟨keepS hne3 hHeld.2.1.1, keepS hne3 hHeld.2.1.2⟩, Or.inr trivial, trivial⟩ ?_
   clear hK K
   try simp only [pu1, pu2, pu3, pu4]
   refine late_st 4 rfl (fun K hK => ?_)
   go_simp
   refine hK.out _ _ ⟨kpt 3, kpt 4, Or.inr trivial, trivial⟩ ?_
   clear hK K
   try simp only [pu1, pu2, pu3, pu4]
   refine late_st 5 rfl (fun K hK => ?_)
   go_simp
   refine hK.out _ _ ⟨kpt 3, kpt 4, kpt 5, trivial⟩ ?_
   clear hK K
   try simp only [pu1, pu2, pu3, pu4]
   refine late_done (by kernel_rfl) ?_ _
   clear e0 e1 e2 e3 y20 y21 y30 y31 f20 f21 f30 f31 hHeld
   go_wp2_with fail
   (try simp only [Exit.inBlock, Exit.then])
   exact bodyPost_ret (results_cct (p := 4) (q := 5) (u := 6) rfl _ _ (g + 1 + 1) (g + 1 + 1 + 1) 25 25 _ _ (0, 0) (0, 0) _ rfl rfl HW2.out.1 HW2.out.2 Tryz.underlying25 rfl (by kernel_rfl) (by kernel_rfl)) rfl HE.out
open Go.RowKit
attribute [local go_sem ↓] Go.wp_at_zero Go.wp_at_succ

section
variable {w w' : World} {g : Nat} {n0 n1 n2 : Bool} {m0 m1 m2 : Value}
end
open Go.RowKit
attribute [local go_sem ↓] Go.wp_at_zero Go.wp_at_succ

theorem iend2 {w wr : World} {g : Nat} {v0 v1 : Value} (hb : Below w.heap.size w wr) (hg : w.heap.size ≤ g) : Below w.heap.size w ((wr.setCell ⟨g, 0, none⟩ v0).setCell ⟨g, 1, none⟩ v1) := (hb.setCell (p := ⟨g, 0, none⟩) hg _).setCell (p := ⟨g, 1, none⟩) hg _
open Go.RowKit
attribute [local go_sem ↓] Go.wp_at_zero Go.wp_at_succ

section
variable {w : World} {p q : Nat} {v0 v1 v2 v3 v4 v5 u0 u1 u2 u3 u4 u5 : Value}

end
open Go.RowKit

def strk (s : ByteArray) : Bool := decide (0 < s.size) && ((s.extract 0 1).toList == [45])

theorem cut_any' (s : ByteArray) (w : World) (hs : s.size ≤ 1000000) :
  Calls Tryz.prog 80 #[.string s, .string ⟨#[45]⟩] w fun e w' => e = .returned (.tuple #[.string (if strk s then s.extract 1 s.size else s), .bool (strk s)]) ∧ w' = w := by
 by_cases h0 : 0 < s.size
 ·
  cases hb : ((s.extract 0 1).toList == [45])
  ·
   have HK : Hid (strk s = false) := by show _ = _; unfold strk; rw [hb]; simp
   rw [HK.out, if_neg (by decide)]
   have h1 : (1 : Int) ≤ (s.size : Int) := by omega
   go_enter Tryz.func80, Tryz.ntmps80
   go_wp2
   go_ret2
   exact ⟨rfl, rfl⟩
  ·
   have HK : Hid (strk s = true) := by show _ = _; unfold strk; rw [hb, decide_eq_true h0]; rfl
   rw [HK.out, if_pos rfl]
   have h1 : (1 : Int) ≤ (s.size : Int) := by omega
   go_enter Tryz.func80, Tryz.ntmps80
   go_wp2
   go_ret2
   exact ⟨rfl, rfl⟩
 ·
  have HK : Hid (strk s = false) := by show _ = _; unfold strk; rw [decide_eq_false h0]; rfl
  rw [HK.out, if_neg (by decide)]
  have h1 : ¬ (1 : Int) ≤ (s.size : Int) := by omega
  go_enter Tryz.func80, Tryz.ntmps80
  go_wp2
  go_ret2
  exact ⟨rfl, rfl⟩
theorem results_ct {P : Program} {fn : Func} {p u : Tmp} {ty : TypeId} (h : fn.results = #[.cell p ty, .tmp u]) (tmps : Array Value) (w : World) (g : Nat) (t : TypeId) (cs : Array Value) (fr : Nat × Nat) (d : TypeDesc)
  (hp : tmps.getD p undef = .pointer (some ⟨g, 0, none⟩)) (hg : w.heap[g]? = some (.cells cs t fr))
  (hu : P.underlying ty = some d) (hd : (match d with | .struct _ | .array _ _ => true | _ => false) = true) (hi : (P.info? ty).map (·.size) = some cs.size) :
  (results fn tmps).run P w = .ok (.tuple #[.agg cs, tmps.getD u undef]) w := by
 have hp' : tmps[p]?.getD undef = .pointer (some ⟨g, 0, none⟩) := by simpa using hp
 simp [results, h, hp', asAddr, run_loadVar_row w g t ty cs fr d hg hu hd hi]
def tail (s : ByteArray) : ByteArray := if strk s then s.extract 1 s.size else s
theorem tail_size (s : ByteArray) : (tail s).size ≤ s.size := by
 unfold tail
 split
 · rw [ByteArray.size_extract]; omega
 · exact Nat.le_refl _
theorem c_parse (s : ByteArray) (w : World) (hs : s.size ≤ 1000000) :
  Calls Tryz.prog 48 #[.string s] w fun e w' => if DigOk (tail s) ∧ 0 < (tail s).size then ∃ v, e = .returned (.tuple #[v, .int .i64 0]) ∧ IOwn w.heap.size w' v (zv (strk s) (bval (dgs (tail s)))) ∧ Below w.heap.size w w'
   else e = .returned (.tuple #[.agg #[.bool false, .slice none 0 0], .int .i64 10]) ∧ Below w.heap.size w w' := by
 have hts := tail_size s
 obtain ⟨W1, hW1⟩ : ∃ W1, W1 = w.alloc (.cells #[.bool false, .slice none 0 0] 25) := ⟨_, rfl⟩
 have q0 : ICell W1 w.heap.size false (.slice none 0 0) := by rw [hW1]; exact icell_new _ rfl
 have hb : Below w.heap.size w W1 := by rw [hW1]; exact belowA _ _
 have hsz : w.heap.size < W1.heap.size := by rw [hW1]; simp
 have HW1 : Hid (W1 = w.alloc (.cells #[.bool false, .slice none 0 0] 25)) := hW1
 clear hW1
 obtain ⟨g, hg⟩ : ∃ g, g = w.heap.size := ⟨_, rfl⟩
 rw [← hg] at q0 hsz
 have HG : Hid (g = w.heap.size) := hg
 have hcut := cut_any' s W1 hs
 rw [show (if strk s = true then s.extract 1 s.size else s) = tail s from rfl] at hcut
 obtain ⟨t, ht⟩ : ∃ t, t = tail s := ⟨_, rfl⟩
 obtain ⟨k, hk⟩ : ∃ k, k = strk s := ⟨_, rfl⟩
 rw [← ht] at hcut hts ⊢
 rw [← hk] at hcut ⊢
 clear ht hk
 by_cases hd : DigOk t ∧ 0 < t.size
 ·
  simp only [hd]
  obtain ⟨z, hz⟩ : ∃ z, z = zv k (bval (dgs t)) := ⟨_, rfl⟩
  have HZ : Hid (z = zv k (bval (dgs t))) := hz
  rw [← hz]
  clear hz
  go_enter Tryz.func48, Tryz.ntmps48
  go_wp2_with fail
  rw [← HW1.out, ← hg]
  clear HW1 hg
  refine hcut.mono ?_
  rintro e w2 ⟨rfl, rfl⟩
  clear hcut
  go_wp2_with fail
  refine (parse_any t _ (by omega)).mono ?_
  rintro e w3 ⟨u, rfl, hu, hb3⟩
  rw [if_pos hd]
  rw [if_pos hd] at hu
  obtain ⟨uo, ul, uc, rfl⟩ := hu.sl
  replace q0 := q0.below hb3
  replace hb := bstep hb hb3
  have HB : Hid (g < w2.heap.size) := hsz
  go_wp2_with fail
  refine (signed_any _ _ _ _ hu.num).mono ?_
  rintro e w4 ⟨rfl, hb4⟩
  rw [sign_eq, ← HZ.out]
  replace q0 := q0.below hb4
  replace hb := bstep hb hb4
  replace hu := hu.below hb4
  have hE := (int_done (w := w) (g := g) (z := z) rfl (by rw [HG.out]; exact Nat.le_refl _) (by rw [HZ.out, zv_abs]; exact hu) HB.out hb).i
  obtain ⟨v9, he9, ho9, hb9⟩ := hE
  cases he9
  have HE : Hid (∃ v, (Ending.returned (.tuple #[.agg #[.bool (decide (z < 0)), .slice uo ul uc], .int .i64 0])) = .returned (.tuple #[v, .int .i64 0]) ∧ IOwn w.heap.size ((w4.setCell ⟨g, 0, none⟩ (.bool (decide (z < 0)))).setCell ⟨g, 1, none⟩ (.slice uo ul uc)) v z ∧ Below w.heap.size w ((w4.setCell ⟨g, 0, none⟩ (.bool (decide (z < 0)))).setCell ⟨g, 1, none⟩ (.slice uo ul uc))) := ⟨_, rfl, ho9, hb9⟩
  have HW : Hid (ICell ((w4.setCell ⟨g, 0, none⟩ (.bool (decide (z < 0)))).setCell ⟨g, 1, none⟩ (.slice uo ul uc)) g (decide (z < 0)) (.slice uo ul uc)) := q0.write _ _
  obtain ⟨y0, y1⟩ := q0.cells
  have f0 := q0.thaw 0
  have f1 := q0.thaw 1
  clear q0 hb hu hb3 hb4 ho9 hb9 hsz hd
  go_wp2_with fail
  (try simp only [Exit.inBlock, Exit.then])
  exact bodyPost_ret (results_ct (p := 2) (u := 3) rfl _ _ g 25 _ (0, 0) _ rfl HW.out Tryz.underlying25 rfl (by kernel_rfl)) rfl HE.out
 ·
  simp only [hd, if_false]
  go_enter Tryz.func48, Tryz.ntmps48
  go_wp2_with fail
  rw [← HW1.out, ← hg]
  clear HW1 hg
  refine hcut.mono ?_
  rintro e w2 ⟨rfl, rfl⟩
  clear hcut
  go_wp2_with fail
  refine (parse_any t _ (by omega)).mono ?_
  rintro e w3 ⟨u, rfl, hu, hb3⟩
  rw [if_neg hd]
  replace q0 := q0.below hb3
  replace hb := bstep hb hb3
  have HE : Hid (Below w.heap.size w ((w3.setCell ⟨g, 0, none⟩ (.bool false)).setCell ⟨g, 1, none⟩ (.slice none 0 0))) := iend2 hb (by rw [HG.out]; exact Nat.le_refl _)
  have HW : Hid (ICell ((w3.setCell ⟨g, 0, none⟩ (.bool false)).setCell ⟨g, 1, none⟩ (.slice none 0 0)) g false (.slice none 0 0)) := q0.write _ _
  obtain ⟨y0, y1⟩ := q0.cells
  have f0 := q0.thaw 0
  have f1 := q0.thaw 1
  clear q0 hb hu hb3 hsz hd
  go_wp2_with fail
  (try simp only [Exit.inBlock, Exit.then])
  exact bodyPost_ret (results_ct (p := 2) (u := 3) rfl _ _ g 25 _ (0, 0) _ rfl HW.out Tryz.underlying25 rfl (by kernel_rfl)) rfl ⟨rfl, HE.out⟩
open Go.RowKit

theorem IOwn.see {B : Nat} {w : World} {v : Value} {z : Int} (h : IOwn B w v z) {L : Nat} (hs : Sz z L) (hL : L ≤ 1000000) : ∃ n o l c, v = .agg #[.bool n, .slice o l c] ∧ INum w (.agg #[.bool n, .slice o l c]) z := by
 have hi := h.num hs hL
 obtain ⟨m, rfl, ho⟩ := h
 obtain ⟨o, l, c, rfl⟩ := ho.sl
 exact ⟨_, o, l, c, rfl, hi⟩
theorem INum.see {w : World} {v : Value} {z : Int} (h : INum w v z) : ∃ n o l c, v = .agg #[.bool n, .slice o l c] ∧ INum w (.agg #[.bool n, .slice o l c]) z := by
 obtain ⟨n, o, l, c, xs, rfl, h1, h2, h3⟩ := h
 exact ⟨n, o, l, c, rfl, n, o, l, c, xs, rfl, h1, h2, h3⟩
def zt (z : Int) : ByteArray := ztxt (decide (z < 0)) z.natAbs
theorem zt_zv (neg : Bool) (n : Nat) : ztxt neg n = zt (zv neg n) := by
 unfold zt ztxt
 rw [zv_abs]
 by_cases h : neg = true ∧ n ≠ 0
 · rw [if_pos h, if_pos ⟨decide_eq_true (by rw [h.1]; unfold zv; simp; omega), h.2⟩]
 ·
  rw [if_neg h, if_neg]
  intro h2
  apply h
  refine ⟨?_, h2.2⟩
  have := of_decide_eq_true h2.1
  cases neg
  · simp [zv] at this; omega
  · rfl
theorem c_text {a : Value} {x : Int} {w : World} (ha : INum w a x) : Calls Tryz.prog 54 #[a] w fun e w' => e = .returned (.string (zt x)) ∧ Below w.heap.size w w' := by
 obtain ⟨na, ao, al, ac, xs, rfl, h1, h2, rfl⟩ := ha
 rw [← zt_zv]
 exact wtext_any _ _ _ _ _ _ h1 h2
theorem Sz.of {z : Int} (h : z.natAbs < 4294967296 ^ 8) : Sz z 8 := ⟨h⟩
open Go.RowKit

theorem cmpZ_eq (x y : Int) : (cmpZ x y == 0) = decide (x = y) := by
 unfold cmpZ
 by_cases h1 : x < y
 · rw [if_pos h1, decide_eq_false (by omega)]; rfl
 ·
  rw [if_neg h1]
  by_cases h2 : x = y
  · rw [if_pos h2, decide_eq_true h2]; rfl
  · rw [if_neg h2, decide_eq_false h2]; rfl
theorem cmpZ_sub (x y : Int) : cmpZ (x - y) 0 = cmpZ x y := by unfold cmpZ; repeat' split; all_goals omega
theorem cmpZ_lt {x y : Int} (h : x < y) : cmpZ x y = -1 := by unfold cmpZ; rw [if_pos h]
theorem cmpZ_gt {x y : Int} (h : y < x) : cmpZ x y = 1 := by unfold cmpZ; rw [if_neg (by omega), if_neg (by omega)]
open Go.RowKit

theorem s_size (s : ByteArray) : s.size = s.data.toList.length := by rw [Array.length_toList]; rfl
theorem strk_eq (s : ByteArray) : strk s = decide (s.data.toList.take 1 = [45]) := by
 unfold strk
 rw [ByteArray.toList_eq, extract_list, List.drop_zero, s_size]
 cases h : s.data.toList with
 | nil => rfl
 | cons x r =>
  rw [Bool.eq_iff_iff]
  simp
theorem strk_first {s : ByteArray} {x : UInt8} {r : List UInt8} (h : s.data.toList = x :: r) (hx : x ≠ 45) : strk s = false ∧ tail s = s := by
 have h1 : strk s = false := by rw [strk_eq, h]; simpa using hx
 refine ⟨h1, ?_⟩
 unfold tail
 rw [h1]
 rfl
theorem dig_first {s : ByteArray} (h : DigOk s) (h0 : 0 < s.size) : strk s = false ∧ tail s = s := by
 cases hl : s.data.toList with
 | nil => rw [s_size, hl] at h0; exact absurd h0 (by simp)
 | cons x r =>
  refine strk_first hl ?_
  intro hx
  have h1 := h 0 h0
  unfold bt at h1
  rw [hl, hx] at h1
  simp at h1
theorem parse_of {s t : ByteArray} {k : Bool} {z : Int} (hst : strk s = k) (htl : tail s = t) (hd : DigOk t ∧ 0 < t.size) (hz : zv k (bval (dgs t)) = z) (hs : s.size ≤ 1000000) (w : World) :
  Calls Tryz.prog 48 #[.string s] w fun e w' => ∃ v, e = .returned (.tuple #[v, .int .i64 0]) ∧ IOwn w.heap.size w' v z ∧ Below w.heap.size w w' := by
 have h := c_parse s w hs
 rw [htl, hst, hz] at h
 simp only [hd, and_self, if_true] at h
 exact h
open Go.RowKit

theorem same_yes (v u : Value) (xs : List Nat) (w : World) (hv : Num w v xs) (hu : Num w u xs) :
  Calls Tryz.prog 37 #[v, u] w fun e w' => e = .returned (.bool true) ∧ ∃ q, w' = w.drewN q := by
 obtain ⟨hb, ao, cap, rfl, hc, hm, hnil, hcell⟩ := hv.open_
 obtain ⟨_, ao', cap', rfl, hc', hm', hnil', hcell'⟩ := hu.open_
 clear hv hu hnil hnil'
 obtain ⟨n, hn⟩ : ∃ n, xs.length = n := ⟨_, rfl⟩
 rw [hn] at hc hc' ⊢
 have HN : Hid (xs.length = n) := hn
 clear hn
 have hne : (((n : Nat) : Int) != ((n : Nat) : Int)) = false := by simp
 go_enter Tryz.func37, Tryz.ntmps37
 go_wp2
 go_loopw [5] (fun t wr => ∃ k : Nat, k ≤ n ∧ t = .int .i64 k ∧ ∃ q, wr = w.drewN q) (fun t _ => n - (intOf t).toNat)
 case atStart => exact ⟨0, Nat.zero_le _, rfl, 0, rfl⟩
 case round =>
  obtain ⟨k, hk, rfl, q, rfl⟩ := hrel
  by_cases hkn : k < n
  ·
   obtain ⟨b, off, rfl, hc0⟩ := hcell k (by rw [HN.out]; omega)
   obtain ⟨b', off', rfl, hc1⟩ := hcell' k (by rw [HN.out]; omega)
   obtain ⟨x, hx⟩ : ∃ x, x = xs.getD k 0 := ⟨_, rfl⟩
   rw [← hx] at hc0 hc1
   clear hx hcell hcell'
   have hlt : (k : Int) < (n : Int) := by omega
   go_wp2
   go_quiet (fail)
   go_wp2
   go_roundw
   case rel => exact ⟨k + 1, by omega, by go_num, _, rfl⟩
   case measure => simp [intOf]; omega
  ·
   have hge : ¬ (k : Int) < (n : Int) := by omega
   clear hcell hcell'
   go_wp2
   go_ret
   exact ⟨rfl, q, rfl⟩
open Go.RowKit

open Go.RowKit

theorem make_ref (neg : Bool) (m : Value) (xs : List Nat) (w : World) (h : Num w m xs) (hl : xs.length ≤ 1000000000) :
  Calls Tryz.prog 108 #[.bool neg, m] w fun e w' => IEnd w (zv neg (val xs)) e w' := by
 obtain ⟨ao, cap, rfl, _, _⟩ := h.ao
 obtain ⟨al, hal⟩ : ∃ l, l = xs.length := ⟨_, rfl⟩
 rw [← hal] at h ⊢
 clear hal
 obtain ⟨W1, hW1⟩ : ∃ W1, W1 = w.alloc (.cells #[.bool false, .slice none 0 0] 25) := ⟨_, rfl⟩
 have q0 : ICell W1 w.heap.size false (.slice none 0 0) := by rw [hW1]; exact icell_new _ rfl
 have hb : Below w.heap.size w W1 := by rw [hW1]; exact belowA _ _
 have hsz : w.heap.size < W1.heap.size := by rw [hW1]; simp
 have HW1 : Hid (W1 = w.alloc (.cells #[.bool false, .slice none 0 0] 25)) := hW1
 clear hW1
 replace h := h.below (Nat.le_refl _) hb
 obtain ⟨g, hg⟩ : ∃ g, g = w.heap.size := ⟨_, rfl⟩
 rw [← hg] at q0 hsz
 have HG : Hid (g = w.heap.size) := hg
 obtain ⟨z, hz⟩ : ∃ z, z = zv neg (val xs) := ⟨_, rfl⟩
 have HZ : Hid (z = zv neg (val xs)) := hz
 rw [← hz]
 clear hz
 go_enter Tryz.func108, Tryz.ntmps108
 go_wp2_with fail
 rw [← HW1.out, ← hg]
 clear HW1 hg
 refine (norm_ref _ _ _ h (by omega)).mono ?_
 rintro e w2 ⟨u, rfl, hu, hb2⟩
 obtain ⟨uo, uc, rfl, _, _⟩ := hu.num.ao
 obtain ⟨ul, hul⟩ : ∃ l, l = (lim (val xs)).length := ⟨_, rfl⟩
 rw [← hul] at hu ⊢
 have hbz : (neg && decide (0 < ul)) = decide (z < 0) := by rw [hul, HZ.out]; exact sign_eq _ _
 replace q0 := q0.below hb2
 replace hb := bstep hb hb2
 have hu' : Own W1.heap.size 37 w2 (.slice uo ul uc) (lim z.natAbs) := by rw [HZ.out, zv_abs]; exact hu
 cases neg
 ·
  have HE : Hid (IEnd w z (.returned (.agg #[.bool false, .slice uo ul uc])) ((w2.setCell ⟨g, 0, none⟩ (.bool false)).setCell ⟨g, 1, none⟩ (.slice uo ul uc))) := (int_done (by rw [← hbz]; rfl) (by rw [HG.out]; omega) hu' hsz hb).i
  have HW : Hid (ICell ((w2.setCell ⟨g, 0, none⟩ (.bool false)).setCell ⟨g, 1, none⟩ (.slice uo ul uc)) g false (.slice uo ul uc)) := q0.write _ _
  obtain ⟨y0, y1⟩ := q0.cells
  have f0 := q0.thaw 0
  have f1 := q0.thaw 1
  clear q0 hb hu hu' hb2 hsz hbz hul h hl
  go_wp2_with fail
  (try simp only [Exit.inBlock, Exit.then])
  exact bodyPost_ret (results_cell_row rfl _ _ g 25 _ (0, 0) _ rfl HW.out Tryz.underlying25 rfl (by kernel_rfl)) rfl HE.out
 ·
  obtain ⟨b, hbb⟩ : ∃ b, b = decide (0 < ul) := ⟨_, rfl⟩
  have HE : Hid (IEnd w z (.returned (.agg #[.bool b, .slice uo ul uc])) ((w2.setCell ⟨g, 0, none⟩ (.bool b)).setCell ⟨g, 1, none⟩ (.slice uo ul uc))) := (int_done (by rw [← hbz, hbb]; rfl) (by rw [HG.out]; omega) hu' hsz hb).i
  have HW : Hid (ICell ((w2.setCell ⟨g, 0, none⟩ (.bool b)).setCell ⟨g, 1, none⟩ (.slice uo ul uc)) g b (.slice uo ul uc)) := q0.write _ _
  obtain ⟨y0, y1⟩ := q0.cells
  have f0 := q0.thaw 0
  have f1 := q0.thaw 1
  have hb1 : decide (0 < ul) = b := hbb.symm
  clear q0 hb hu hu' hb2 hsz hbz hul h hl hbb
  go_wp2_with fail
  (try simp only [Exit.inBlock, Exit.then])
  exact bodyPost_ret (results_cell_row rfl _ _ g 25 _ (0, 0) _ rfl HW.out Tryz.underlying25 rfl (by kernel_rfl)) rfl HE.out
open Go.RowKit

open Go.RowKit

open Go.RowKit

open Go.RowKit

theorem of_ref (u : Nat) (w : World) (hu : u < 18446744073709551616) :
  Calls Tryz.prog 122 #[.int .u64 (u : Int)] w fun e w' => Made w.heap.size 37 w (lim u) e w' := by
 have hb : limbs [u % 4294967296, u / 4294967296] := by
  intro x hx
  simp at hx
  omega
 have how := Own.lit (B := w.heap.size) 37 w #[.int .u32 ((u : Int) % 4294967296), .int .u32 ((u : Int) / 4294967296)] [u % 4294967296, u / 4294967296] hb (Nat.le_refl _) (by simp [maxLen]) (by simp [U])
 have hbel : Below w.heap.size w (w.alloc (.cells #[.int .u32 ((u : Int) % 4294967296), .int .u32 ((u : Int) / 4294967296)] 37)) := (Below.refl _ _).alloc (Nat.le_refl _) _
 go_enter Tryz.func122, Tryz.ntmps122
 go_wp2_with fail
 refine (norm_ref _ _ _ how.num (by simp)).mono ?_
 rintro e w' ⟨v, rfl, how2, hbel2⟩
 rw [val_two] at how2
 have hw : w.heap.size ≤ (w.alloc (.cells #[.int .u32 ((u : Int) % 4294967296), .int .u32 ((u : Int) / 4294967296)] 37)).heap.size := by simp
 have hm := how2.mono hw
 have hbb := hbel.trans (hbel2.mono hw)
 clear how hb how2 hbel hbel2 hw
 go_wp2
 go_ret
 exact ⟨_, rfl, hm, hbb⟩
open Go.RowKit

theorem Cells.same {g : Nat} {w w' : World} {zs : List Nat} (h : Cells w g zs) (e : w'.heap = w.heap) : Cells w' g zs := ⟨h.1, by rw [e]; exact h.2⟩

theorem mul_ref (u v : Value) (xs ys : List Nat) (w : World) (hu : Num w u xs) (hv : Num w v ys) (hbx : xs.length ≤ 549755813888) (hby : ys.length ≤ 549755813888) :
  Calls Tryz.prog 99 #[u, v] w fun e w' => Made' w.heap.size w (lim (val xs * val ys)) e w' := by
 obtain ⟨i0, hi, hz0, hz1, hz2⟩ := info_parts Tryz.infoU
 have hsx := lim_short hu
 have hsy := lim_short hv
 go_enter Tryz.func99, Tryz.ntmps99
 go_wp2_with fail
 refine (norm_ref _ _ _ hu (by omega)).mono ?_
 rintro e w1 ⟨vx, rfl, hox, hb1⟩
 go_wp2_with fail
 refine (norm_ref _ _ _ (hv.below (Nat.le_refl _) hb1) (by omega)).mono ?_
 rintro e w2 ⟨vy, rfl, hoy, hb2⟩
 have hox2 := hox.below hb2
 have hB2 : Below w.heap.size w w2 := hb1.trans (hb2.mono hb1.size)
 have hS2 := hB2.size
 have HE : Hid (val xs * val ys = val (lim (val xs)) * val (lim (val ys))) := by show _ = _; rw [val_lim, val_lim]
 clear hox hb1 hb2 hu hv
 obtain ⟨ao, cap, rfl, hpx, hl1, hm1⟩ := hox2.ao
 obtain ⟨bo, dap, rfl, hpy, hl2, hm2⟩ := hoy.ao
 obtain ⟨k, hk⟩ : ∃ k, k = (lim (val xs)).length := ⟨_, rfl⟩
 obtain ⟨m, hm⟩ : ∃ m, m = (lim (val ys)).length := ⟨_, rfl⟩
 rw [← hk] at hsx hox2 hpx hl1 ⊢
 rw [← hm] at hsy hoy hpy hl2 ⊢
 generalize hX : lim (val xs) = X at *
 generalize hY : lim (val ys) = Y at *
 have HKL : Hid (k = X.length) := hk
 have HML : Hid (m = Y.length) := hm
 clear hk hm hX hY
 obtain ⟨n, hn⟩ : ∃ n, n = k + m := ⟨_, rfl⟩
 have HNN : Hid (n = k + m) := hn
 have hn1 : k ≤ n := by omega
 have hn2 : m ≤ n := by omega
 have hn3 : n ≤ 1099511627776 := by omega
 clear hn
 go_wp2_with (at_make; refine wpList_make_full _ rfl _ _ 23 rfl w.heap.size 37 i0 (.int .u32 0) 1 Tryz.underlying23 hi hz0 hz1 _ _ _ _ n rfl rfl (by have := HNN.out; omega) (by have := HNN.out; omega) (by rw [hz2]; omega) (by unfold maxLen; omega) hS2 ?_)
 intro w3 ho3 hg3
 have how := own_made ho3
 have hbel : Below w2.heap.size w2 w3 := (Below.refl w2.heap.size w2).grown hg3 (Nat.le_refl _) (by intro k hk; simp at hk)
 obtain ⟨g, hg⟩ : ∃ g, g = w2.heap.size := ⟨_, rfl⟩
 have HB : Hid (Below w2.heap.size w2 w3 ∧ Cells w3 g (List.replicate n 0)) := by rw [hg]; exact ⟨hbel, how.cells⟩
 have HG : Hid (w2.heap.size ≤ g) := by show _ ≤ _; omega
 rw [← hg]
 clear hg hbel how ho3 hg3
 go_wp2
 go_loopw [8] (fun t wr => ∃ (i : Nat) (zs : List Nat), i ≤ k ∧ t = .int .i64 i ∧ zs.length = n ∧ Cells wr g zs ∧ Below w2.heap.size w2 wr ∧ (∀ j, i + m ≤ j → zs.getD j 0 = 0) ∧ val zs = val Y * low X i) (fun t _ => k - (intOf t).toNat)
 case atStart => exact ⟨0, List.replicate n 0, Nat.zero_le _, rfl, by simp, HB.out.2, HB.out.1, fun j _ => by rw [List.getD_eq_getElem?_getD, List.getElem?_replicate]; split <;> rfl, by rw [low_zero, Nat.mul_zero]; exact val_zeros fun x hx => List.eq_of_mem_replicate hx⟩
 case round =>
  clear HB
  obtain ⟨i, zs, hin, rfl, hzl, hcs, hbel, hzero, hval⟩ := hrel
  have HZ : Hid (zs.length = n) := hzl
  have HV : Hid (val zs = val Y * low X i) := hval
  have HZZ : Hid (∀ j, i + m ≤ j → zs.getD j 0 = 0) := hzero
  clear hzl hval hzero
  by_cases hlt : i < k
  ·
   have hlt' : (i : Int) < (k : Int) := by omega
   have hik : i + m < n := by have := HNN.out; omega
   obtain ⟨gx, rfl⟩ := hpx (by omega)
   have cx := (hox2.cell (k := i) (by rw [← HKL.out]; exact hlt)).1
   have hx0 := limb_lt hox2.1 i
   have hgx := (hox2.block gx rfl).2
   obtain ⟨x, hx⟩ : ∃ x, x = X.getD i 0 := ⟨_, rfl⟩
   rw [← hx] at cx hx0
   have HX : Hid (x = X.getD i 0) := hx
   have CX : Hid (w2.cell? ⟨gx, i, none⟩ = some (.int .u32 (x : Int))) := cx
   have HC0 : Hid (Cells wr g zs) := hcs
   have HB0 : Hid (Below w2.heap.size w2 wr) := hbel
   clear hx cx hcs hbel
   go_wp2
   go_loopw [9, 10] (fun cv t wr => ∃ (j c : Nat) (ys' : List Nat), j ≤ m ∧ t = .int .i64 j ∧ cv = .int .u64 c ∧ c < 4294967296 ∧ ys'.length = zs.length ∧ Cells wr g ys' ∧ Below w2.heap.size w2 wr ∧ (∀ q, q < i ∨ i + j ≤ q → ys'.getD q 0 = zs.getD q 0) ∧ low (ys'.drop i) j + 4294967296 ^ j * c = low (zs.drop i) j + low Y j * x) (fun _ t _ => m - (intOf t).toNat)
   case atStart => exact ⟨0, 0, zs, Nat.zero_le _, rfl, rfl, by omega, rfl, HC0.out, HB0.out, fun _ _ => rfl, by simp [low_zero]⟩
   case round =>
    clear HC0 HB0
    obtain ⟨j, c, zt, hjm, rfl, rfl, hc1, hyl, hcs, hbel, hout, hinv⟩ := hrel
    have HY : Hid (zt.length = zs.length) := hyl
    have HI : Hid (low (zt.drop i) j + 4294967296 ^ j * c = low (zs.drop i) j + low Y j * x) := hinv
    have HO : Hid (∀ q, q < i ∨ i + j ≤ q → zt.getD q 0 = zs.getD q 0) := hout
    clear hyl hinv hout
    by_cases hjt : j < m
    ·
     have hjt' : (j : Int) < (m : Int) := by omega
     have hij : i + j < n := by omega
     obtain ⟨gy, rfl⟩ := hpy (by omega)
     have cy := (hoy.cell (k := j) (by rw [← HML.out]; exact hjt)).1
     have hy0 := limb_lt hoy.1 j
     have hgy := (hoy.block gy rfl).2
     obtain ⟨y, hy⟩ : ∃ y, y = Y.getD j 0 := ⟨_, rfl⟩
     rw [← hy] at cy hy0
     have HYY : Hid (y = Y.getD j 0) := hy
     have cx' : wr.cell? ⟨gx, i, none⟩ = some (.int .u32 (x : Int)) := by rw [hbel.cell (p := ⟨gx, i, none⟩) hgx]; exact CX.out
     have cy' : wr.cell? ⟨gy, j, none⟩ = some (.int .u32 (y : Int)) := by rw [hbel.cell (p := ⟨gy, j, none⟩) hgy]; exact cy
     obtain ⟨cz, hfz⟩ := hcs.cell (k := i + j) (by rw [HY.out, HZ.out]; exact hij)
     have hz0' := limb_lt hcs.1 (i + j)
     obtain ⟨z, hz⟩ : ∃ z, z = zt.getD (i + j) 0 := ⟨_, rfl⟩
     rw [← hz] at cz hz0'
     have HZT : Hid (z = zt.getD (i + j) 0) := hz
     have tb := mul_bound hx0 hy0
     obtain ⟨t, ht⟩ : ∃ t, t = x * y := ⟨_, rfl⟩
     rw [← ht] at tb
     have et : (x : Int) * (y : Int) = (t : Int) := by rw [ht]; exact (Int.natCast_mul x y).symm
     have HT : Hid (t = y * x) := by show _ = _; rw [ht, Nat.mul_comm]
     have hts := top_sum tb hc1 hz0'
     have hts2 : c + t ≤ 18446744073709551615 := by omega
     clear hy hz ht cy
     go_wp2
     go_quiet (fail)
     have hcs2 : Cells (wr.drewN nq) g zt := hcs.same (heap_drewN _ _)
     have hbel2 : Below w2.heap.size w2 (wr.drewN nq) := below_drewN hbel nq
     clear cz hfz cx' cy' hcs hbel
     generalize wr.drewN nq = W at *
     obtain ⟨cz, hfz⟩ := hcs2.cell (k := i + j) (by rw [HY.out, HZ.out]; exact hij)
     rw [← HZT.out] at cz
     have hset := hcs2.set (i + j) ((c + (t + z)) % 4294967296) (by omega)
     have hU : U ((c + (t + z)) % 4294967296) = .int .u32 (((c : Int) + (t : Int) + (z : Int)) % 4294967296) := by unfold U; congr 1; omega
     have hbel3 := hbel2.setCell (p := ⟨g, i + j, none⟩) (by exact HG.out) (U ((c + (t + z)) % 4294967296))
     rw [hU] at hset hbel3
     clear hcs2 hbel2 hU
     go_wp2
     go_roundw
     case rel =>
      refine ⟨j + 1, (c + (t + z)) / 4294967296, _, by omega, by go_num, by go_num, by omega, by rw [List.length_set]; exact HY.out, hset, hbel3, fun q hq => ?_, ?_⟩
      · rw [getD_set_off _ _ _ _ (by omega)]; exact HO.out q (by omega)
      ·
       rw [drop_set_add, HT.out, HYY.out, HZT.out, ← getD_drop]
       refine times_step (by simp; rw [HY.out, HZ.out]; omega) HI.out ?_
       rw [getD_drop, getD_drop]
       exact HO.out _ (by omega)
     case measure => simp [intOf]; omega
    ·
     have hjt' : ¬ (j : Int) < (m : Int) := by omega
     have hjm' : j = m := by omega
     have HI' : Hid (low (zt.drop i) m + 4294967296 ^ m * c = low (zs.drop i) m + val Y * x) := by
      show _ = _
      have := HI.out
      rw [hjm', low_all (xs := Y) (by rw [← HML.out]; omega)] at this
      exact this
     have HO' : Hid (∀ q, q < i ∨ i + m ≤ q → zt.getD q 0 = zs.getD q 0) := by rw [← hjm']; exact HO.out
     obtain ⟨cz, hfz⟩ := hcs.cell (k := i + m) (by rw [HY.out, HZ.out]; exact hik)
     obtain ⟨z, hz⟩ : ∃ z, z = zt.getD (i + m) 0 := ⟨_, rfl⟩
     rw [← hz] at cz
     have hset := hcs.set (i + m) c hc1
     have hbel3 := hbel.setCell (p := ⟨g, i + m, none⟩) (by exact HG.out) (U c)
     rw [show U c = .int .u32 (c : Int) from rfl] at hset hbel3
     have HR : Hid (val (zt.set (i + m) c) = val Y * low X (i + 1)) := by
      show _ = _
      rw [mul_step HY.out (by rw [HZ.out]; exact hik) HZZ.out HO'.out HI'.out, HX.out]
      exact mul_row HV.out
     have HR2 : Hid (∀ q, i + 1 + m ≤ q → (zt.set (i + m) c).getD q 0 = 0) := mul_zeros HZZ.out HO'.out
     clear hjm' hcs hbel hz HI HO HI' HO'
     go_wp2
     go_roundw
     case rel => exact ⟨i + 1, _, by omega, by go_num, by rw [List.length_set, HY.out]; exact HZ.out, hset, hbel3, HR2.out, HR.out⟩
     case measure => simp [intOf]; omega
  ·
   have hlt' : ¬ (i : Int) < (k : Int) := by omega
   have him : i = k := by omega
   have HF : Hid (val zs = val xs * val ys) := by
    show _ = _
    rw [HE.out, HV.out, him, low_all (by rw [← HKL.out]; omega), Nat.mul_comm]
   have how : Own w.heap.size 37 wr (.slice (some ⟨g, 0, none⟩) n n) zs := by
    have := hcs.own (B := w.heap.size) (Nat.le_trans hS2 HG.out) (by rw [HZ.out]; omega)
    rw [HZ.out] at this
    exact this
   have hBW : Below w.heap.size w wr := hB2.trans (hbel.mono hS2)
   have hsW := hBW.size
   clear him hcs hbel
   go_wp2_with fail
   refine (norm_ref _ _ _ how.num (by rw [HZ.out]; omega)).mono ?_
   rintro e w4 ⟨v4, rfl, ho4, hb4⟩
   rw [HF.out] at ho4
   have ho5 := ho4.mono hsW
   have hb5 := hBW.trans (hb4.mono hsW)
   clear how ho4 hb4 hBW
   go_wp2
   go_ret
   exact ⟨_, rfl, ho5, hb5⟩
open Go.RowKit

open Go.RowKit


open Go.RowKit

open Go.RowKit

open Go.RowKit

theorem sub_ref (u v : Value) (xs ys : List Nat) (w : World) (hu : Num w u xs) (hv : Num w v ys) (hbx : xs.length ≤ 1099511627776) (hby : ys.length ≤ 1099511627776) :
  Calls Tryz.prog 124 #[u, v] w fun e w' => SubTold w.heap.size w (val xs) (val ys) e w' := by
 unfold SubTold
 by_cases hs : val ys ≤ val xs
 ·
  rw [show leB (val ys) (val xs) = true by simp [leB, hs]]
  exact sub_ref_yes u v xs ys w hu hv hbx hby hs
 ·
  rw [show leB (val ys) (val xs) = false by simp [leB, hs], show val xs - val ys = 0 by omega]
  refine (sub_ref_no u v xs ys w hu hv hbx hby (by omega)).mono ?_
  rintro e w' ⟨rfl, rfl⟩
  exact ⟨_, rfl, Own.of_nil _ _ _, Below.refl _ _⟩
open Go.RowKit

theorem lim_le {n : Nat} {xs : List Nat} {w : World} {v : Value} (h : Num w v xs) (hn : n ≤ val xs) : (lim n).length ≤ xs.length := lim_len_le (Nat.lt_of_le_of_lt hn (val_lt h.1))
theorem r_norm {a : Value} {x : Int} {w : World} (ha : INum w a x) : Calls Tryz.prog 102 #[a] w fun e w' => IEnd w (x) e w' := by
 obtain ⟨na, ao, al, ac, xa, rfl, ua, la, za⟩ := ha
 have ha : INum w (.agg #[.bool na, .slice ao al ac]) x := ⟨_, _, _, _, _, rfl, ua, la, za⟩
 obtain ⟨W1, hW1⟩ : ∃ W1, W1 = (w.alloc (.cells #[.bool na, .slice ao al ac] 25)).alloc (.cells #[.bool false, .slice none 0 0] 25) := ⟨_, rfl⟩
 have qa : ICell W1 (w.heap.size) na (.slice ao al ac) := by rw [hW1]; exact (icell_step (icell_new _ (by simp)))
 have qR : ICell W1 (w.heap.size + 1) false (.slice none 0 0) := by rw [hW1]; exact (icell_new _ (by simp))
 have hb : Below w.heap.size w W1 := by rw [hW1]; exact bstep (belowA w _) (belowA _ _)
 have hsz : w.heap.size + 1 < W1.heap.size := by rw [hW1]; simp
 replace ua := ua.below (Nat.le_refl _) hb
 have HW1 : Hid (W1 = (w.alloc (.cells #[.bool na, .slice ao al ac] 25)).alloc (.cells #[.bool false, .slice none 0 0] 25)) := hW1
 clear hW1
 go_enter Tryz.func102, Tryz.ntmps102
 go_wp2_with fail
 rw [← HW1.out]
 clear HW1
 obtain ⟨g, hg⟩ : ∃ g, g = w.heap.size := ⟨_, rfl⟩
 rw [← hg] at qa qR hsz ⊢
 have HG : Hid (g = w.heap.size) := hg
 clear hg
 have hmk := make_ref na _ _ _ ua (by omega)
 rw [za] at hmk
 refine (hmk).mono ?_
 rintro e w2 ⟨v, rfl, ⟨m, rfl, hm⟩, b⟩
 clear hmk
 obtain ⟨mo, ml, mc, rfl⟩ := hm.sl
 have hszz := hsz
 replace ua := ua.below (Nat.le_refl _) b
 replace qa := qa.below b
 replace qR := qR.below b
 replace hb := bstep hb b
 replace hsz := Nat.lt_of_lt_of_le hsz b.size
 clear b
 have HE : Hid (IEnd w (x) (.returned (.agg #[.bool (decide (x < 0)), .slice mo ml mc])) ((w2.setCell ⟨g + 1, 0, none⟩ (.bool (decide (x < 0)))).setCell ⟨g + 1, 1, none⟩ (.slice mo ml mc))) := (int_done rfl (by rw [HG.out]; omega) hm hszz hb).i
 have HW : Hid (ICell ((w2.setCell ⟨g + 1, 0, none⟩ (.bool (decide (x < 0)))).setCell ⟨g + 1, 1, none⟩ (.slice mo ml mc)) (g + 1) (decide (x < 0)) (.slice mo ml mc)) := qR.write _ _
 obtain ⟨y0, y1⟩ := qR.cells
 have f0 := qR.thaw 0
 have f1 := qR.thaw 1
 generalize decide (x < 0) = bb at *
 clear hszz ha za la
 clear hb hsz hm qa qR ua
 go_wp2_with fail
 (try simp only [Exit.inBlock, Exit.then])
 exact bodyPost_ret (results_cell_row rfl _ _ (g + 1) 25 _ (0, 0) _ rfl HW.out Tryz.underlying25 rfl (by kernel_rfl)) rfl HE.out
theorem r_neg {a : Value} {x : Int} {w : World} (ha : INum w a x) : Calls Tryz.prog 78 #[a] w fun e w' => IEnd w (-x) e w' := by
 obtain ⟨na, ao, al, ac, xa, rfl, ua, la, za⟩ := ha
 have ha : INum w (.agg #[.bool na, .slice ao al ac]) x := ⟨_, _, _, _, _, rfl, ua, la, za⟩
 obtain ⟨Z, hZ⟩ : ∃ Z : Int, Z = -x := ⟨_, rfl⟩
 have HZ : Hid (-x = Z) := hZ.symm
 rw [← hZ]
 clear hZ
 obtain ⟨W1, hW1⟩ : ∃ W1, W1 = (w.alloc (.cells #[.bool na, .slice ao al ac] 25)).alloc (.cells #[.bool false, .slice none 0 0] 25) := ⟨_, rfl⟩
 have qa : ICell W1 (w.heap.size) na (.slice ao al ac) := by rw [hW1]; exact (icell_step (icell_new _ (by simp)))
 have qR : ICell W1 (w.heap.size + 1) false (.slice none 0 0) := by rw [hW1]; exact (icell_new _ (by simp))
 have hb : Below w.heap.size w W1 := by rw [hW1]; exact bstep (belowA w _) (belowA _ _)
 have hsz : w.heap.size + 1 < W1.heap.size := by rw [hW1]; simp
 replace ua := ua.below (Nat.le_refl _) hb
 have HW1 : Hid (W1 = (w.alloc (.cells #[.bool na, .slice ao al ac] 25)).alloc (.cells #[.bool false, .slice none 0 0] 25)) := hW1
 clear hW1
 go_enter Tryz.func78, Tryz.ntmps78
 go_wp2_with fail
 rw [← HW1.out]
 clear HW1
 obtain ⟨g, hg⟩ : ∃ g, g = w.heap.size := ⟨_, rfl⟩
 rw [← hg] at qa qR hsz ⊢
 have HG : Hid (g = w.heap.size) := hg
 clear hg
 have hmk := make_ref (!na) _ _ _ ua (by omega)
 rw [← zv_neg, za] at hmk
 rw [HZ.out] at hmk
 refine (hmk).mono ?_
 rintro e w2 ⟨v, rfl, ⟨m, rfl, hm⟩, b⟩
 clear hmk
 obtain ⟨mo, ml, mc, rfl⟩ := hm.sl
 have hszz := hsz
 replace ua := ua.below (Nat.le_refl _) b
 replace qa := qa.below b
 replace qR := qR.below b
 replace hb := bstep hb b
 replace hsz := Nat.lt_of_lt_of_le hsz b.size
 clear b
 have HE : Hid (IEnd w (Z) (.returned (.agg #[.bool (decide (Z < 0)), .slice mo ml mc])) ((w2.setCell ⟨g + 1, 0, none⟩ (.bool (decide (Z < 0)))).setCell ⟨g + 1, 1, none⟩ (.slice mo ml mc))) := (int_done rfl (by rw [HG.out]; omega) hm hszz hb).i
 have HW : Hid (ICell ((w2.setCell ⟨g + 1, 0, none⟩ (.bool (decide (Z < 0)))).setCell ⟨g + 1, 1, none⟩ (.slice mo ml mc)) (g + 1) (decide (Z < 0)) (.slice mo ml mc)) := qR.write _ _
 obtain ⟨y0, y1⟩ := qR.cells
 have f0 := qR.thaw 0
 have f1 := qR.thaw 1
 generalize decide (Z < 0) = bb at *
 clear hszz ha za la
 clear hb hsz hm qa qR ua
 go_wp2_with fail
 (try simp only [Exit.inBlock, Exit.then])
 exact bodyPost_ret (results_cell_row rfl _ _ (g + 1) 25 _ (0, 0) _ rfl HW.out Tryz.underlying25 rfl (by kernel_rfl)) rfl HE.out
theorem nz_int2 {x : Nat} (h : 0 < x) : ((x : Int) == 0) = false := by
 have h1 : ¬ (x : Int) = 0 := by omega
 simpa using h1
theorem r_sign {a : Value} {x : Int} {w : World} (ha : INum w a x) : Calls Tryz.prog 65 #[a] w fun e w' => e = .returned (.int .i64 (cmpZ x 0)) ∧ Below w.heap.size w w' := by
 obtain ⟨c, hc⟩ : ∃ c, c = cmpZ x 0 := ⟨_, rfl⟩
 have HC : Hid (c = cmpZ x 0) := hc
 rw [← hc]
 clear hc
 obtain ⟨na, ao, al, ac, xa, rfl, ua, la, za⟩ := ha
 have ha : INum w (.agg #[.bool na, .slice ao al ac]) x := ⟨_, _, _, _, _, rfl, ua, la, za⟩
 obtain ⟨W1, hW1⟩ : ∃ W1, W1 = w.alloc (.cells #[.bool na, .slice ao al ac] 25) := ⟨_, rfl⟩
 have qa : ICell W1 (w.heap.size) na (.slice ao al ac) := by rw [hW1]; exact (icell_new _ (by simp))
 have hb : Below w.heap.size w W1 := by rw [hW1]; exact belowA w _
 have hsz : w.heap.size < W1.heap.size := by rw [hW1]; simp
 replace ha := ha.below hb
 have HW1 : Hid (W1 = w.alloc (.cells #[.bool na, .slice ao al ac] 25)) := hW1
 clear hW1
 clear ua la za
 go_enter Tryz.func65, Tryz.ntmps65
 go_wp2_with fail
 rw [← HW1.out]
 clear HW1
 obtain ⟨g, hg⟩ : ∃ g, g = w.heap.size := ⟨_, rfl⟩
 rw [← hg] at qa hsz ⊢
 have HG : Hid (g = w.heap.size) := hg
 clear hg
 refine (r_norm ha).mono ?_
 rintro e w2 ⟨v, rfl, ⟨m, rfl, hm⟩, b⟩
 obtain ⟨mo, mc, rfl, _, _⟩ := hm.num.ao
 obtain ⟨ml, hml⟩ : ∃ l, l = (lim x.natAbs).length := ⟨_, rfl⟩
 rw [← hml]
 clear hm
 replace ha := ha.below b
 replace qa := qa.below b
 replace hb := bstep hb b
 replace hsz := Nat.lt_of_lt_of_le hsz b.size
 clear b
 obtain ⟨bb, hbb⟩ : ∃ b, b = decide (x < 0) := ⟨_, rfl⟩
 rw [← hbb]
 rcases Int.lt_trichotomy x 0 with hc | hc | hc
 ·
  have e1 : bb = true := by rw [hbb]; exact decide_eq_true hc
  have e2 : cmpZ x 0 = -1 := cmpZ_lt hc
  have e3 : ¬ ml = 0 := by rw [hml]; have := (lim_pos_len (n := x.natAbs)).2 (by omega); omega
  have e4 : ((ml : Int) == 0) = false := nz_int2 (by omega)
  clear e3
  subst e1
  have E2 : Hid (c = _) := HC.out.trans e2
  clear e2 hbb hml HC hc
  obtain ⟨W3, hW3⟩ : ∃ W, W = w2.alloc (.cells #[.bool true, .slice mo ml mc] 25) := ⟨_, rfl⟩
  have qN : ICell W3 (w2.heap.size) true (.slice mo ml mc) := by rw [hW3]; exact (icell_new _ rfl)
  have b : Below w2.heap.size w2 W3 := by rw [hW3]; exact belowA _ _
  replace ha := ha.below b
  replace qa := qa.below b
  replace hb := bstep hb b
  replace hsz := Nat.lt_of_lt_of_le hsz b.size
  clear b
  have rqa0 : (w2.alloc (.cells #[.bool true, .slice mo ml mc] 25)).cell? ⟨g, 0, none⟩ = some (.bool na) := by rw [← hW3]; exact qa.cells.1
  have rqa1 : (w2.alloc (.cells #[.bool true, .slice mo ml mc] 25)).cell? ⟨g, 1, none⟩ = some (.slice ao al ac) := by rw [← hW3]; exact qa.cells.2
  have rqN0 : (w2.alloc (.cells #[.bool true, .slice mo ml mc] 25)).cell? ⟨w2.heap.size, 0, none⟩ = some (.bool true) := by rw [← hW3]; exact qN.cells.1
  have rqN1 : (w2.alloc (.cells #[.bool true, .slice mo ml mc] 25)).cell? ⟨w2.heap.size, 1, none⟩ = some (.slice mo ml mc) := by rw [← hW3]; exact qN.cells.2
  obtain ⟨v3, hv3⟩ : ∃ v, v = w2.heap.size := ⟨_, rfl⟩
  rw [← hv3] at qN
  have HW3 : Hid (W3 = w2.alloc (.cells #[.bool true, .slice mo ml mc] 25)) := hW3
  have Hv3 : Hid (v3 = w2.heap.size) := hv3
  clear hW3 hv3
  have HE : Hid (Below w.heap.size w W3) := hb
  clear hb hsz qa qN ha
  go_wp2_with fail
  rw [← HW3.out]
  go_ret
  exact ⟨by rw [E2.out]; rfl, HE.out⟩
 ·
  have e1 : bb = false := by rw [hbb]; exact decide_eq_false (by omega)
  have e2 : cmpZ x 0 = 0 := by rw [hc]; rfl
  have e3 : ml = 0 := by rw [hml, hc]; rfl
  subst e3
  subst e1
  have E2 : Hid (c = _) := HC.out.trans e2
  clear e2 hbb hml HC hc
  obtain ⟨W3, hW3⟩ : ∃ W, W = w2.alloc (.cells #[.bool false, .slice mo 0 mc] 25) := ⟨_, rfl⟩
  have qN : ICell W3 (w2.heap.size) false (.slice mo 0 mc) := by rw [hW3]; exact (icell_new _ rfl)
  have b : Below w2.heap.size w2 W3 := by rw [hW3]; exact belowA _ _
  replace ha := ha.below b
  replace qa := qa.below b
  replace hb := bstep hb b
  replace hsz := Nat.lt_of_lt_of_le hsz b.size
  clear b
  have rqa0 : (w2.alloc (.cells #[.bool false, .slice mo 0 mc] 25)).cell? ⟨g, 0, none⟩ = some (.bool na) := by rw [← hW3]; exact qa.cells.1
  have rqa1 : (w2.alloc (.cells #[.bool false, .slice mo 0 mc] 25)).cell? ⟨g, 1, none⟩ = some (.slice ao al ac) := by rw [← hW3]; exact qa.cells.2
  have rqN0 : (w2.alloc (.cells #[.bool false, .slice mo 0 mc] 25)).cell? ⟨w2.heap.size, 0, none⟩ = some (.bool false) := by rw [← hW3]; exact qN.cells.1
  have rqN1 : (w2.alloc (.cells #[.bool false, .slice mo 0 mc] 25)).cell? ⟨w2.heap.size, 1, none⟩ = some (.slice mo 0 mc) := by rw [← hW3]; exact qN.cells.2
  obtain ⟨v3, hv3⟩ : ∃ v, v = w2.heap.size := ⟨_, rfl⟩
  rw [← hv3] at qN
  have HW3 : Hid (W3 = w2.alloc (.cells #[.bool false, .slice mo 0 mc] 25)) := hW3
  have Hv3 : Hid (v3 = w2.heap.size) := hv3
  clear hW3 hv3
  have HE : Hid (Below w.heap.size w W3) := hb
  clear hb hsz qa qN ha
  go_wp2_with fail
  rw [← HW3.out]
  go_ret
  exact ⟨by rw [E2.out]; rfl, HE.out⟩
 ·
  have e1 : bb = false := by rw [hbb]; exact decide_eq_false (by omega)
  have e2 : cmpZ x 0 = 1 := cmpZ_gt hc
  have e3 : ¬ ml = 0 := by rw [hml]; have := (lim_pos_len (n := x.natAbs)).2 (by omega); omega
  have e4 : ((ml : Int) == 0) = false := nz_int2 (by omega)
  clear e3
  subst e1
  have E2 : Hid (c = _) := HC.out.trans e2
  clear e2 hbb hml HC hc
  obtain ⟨W3, hW3⟩ : ∃ W, W = w2.alloc (.cells #[.bool false, .slice mo ml mc] 25) := ⟨_, rfl⟩
  have qN : ICell W3 (w2.heap.size) false (.slice mo ml mc) := by rw [hW3]; exact (icell_new _ rfl)
  have b : Below w2.heap.size w2 W3 := by rw [hW3]; exact belowA _ _
  replace ha := ha.below b
  replace qa := qa.below b
  replace hb := bstep hb b
  replace hsz := Nat.lt_of_lt_of_le hsz b.size
  clear b
  have rqa0 : (w2.alloc (.cells #[.bool false, .slice mo ml mc] 25)).cell? ⟨g, 0, none⟩ = some (.bool na) := by rw [← hW3]; exact qa.cells.1
  have rqa1 : (w2.alloc (.cells #[.bool false, .slice mo ml mc] 25)).cell? ⟨g, 1, none⟩ = some (.slice ao al ac) := by rw [← hW3]; exact qa.cells.2
  have rqN0 : (w2.alloc (.cells #[.bool false, .slice mo ml mc] 25)).cell? ⟨w2.heap.size, 0, none⟩ = some (.bool false) := by rw [← hW3]; exact qN.cells.1
  have rqN1 : (w2.alloc (.cells #[.bool false, .slice mo ml mc] 25)).cell? ⟨w2.heap.size, 1, none⟩ = some (.slice mo ml mc) := by rw [← hW3]; exact qN.cells.2
  obtain ⟨v3, hv3⟩ : ∃ v, v = w2.heap.size := ⟨_, rfl⟩
  rw [← hv3] at qN
  have HW3 : Hid (W3 = w2.alloc (.cells #[.bool false, .slice mo ml mc] 25)) := hW3
  have Hv3 : Hid (v3 = w2.heap.size) := hv3
  clear hW3 hv3
  have HE : Hid (Below w.heap.size w W3) := hb
  clear hb hsz qa qN ha
  go_wp2_with fail
  rw [← HW3.out]
  go_ret
  exact ⟨by rw [E2.out]; rfl, HE.out⟩
theorem lim_sum {xs ys : List Nat} (hx : limbs xs) (hy : limbs ys) {n : Nat} (lx : xs.length ≤ n) (ly : ys.length ≤ n) : (lim (val xs + val ys)).length ≤ n + 1 := by
 apply lim_len_le
 have h1 := Nat.lt_of_lt_of_le (val_lt hx) (Nat.pow_le_pow_right (Nat.succ_pos 4294967295) lx)
 have h2 := Nat.lt_of_lt_of_le (val_lt hy) (Nat.pow_le_pow_right (Nat.succ_pos 4294967295) ly)
 rw [Nat.pow_succ]
 generalize 4294967296 ^ n = P at *
 omega
theorem r_add {a b : Value} {x y : Int} {w : World} (ha : INum w a x) (hb' : INum w b y) : Calls Tryz.prog 97 #[a, b] w fun e w' => IEnd w (x + y) e w' := by
 obtain ⟨Z, hZ⟩ : ∃ Z : Int, Z = x + y := ⟨_, rfl⟩
 have HZ : Hid (Z = x + y) := hZ
 rw [← hZ]
 clear hZ
 obtain ⟨na, ao, al, ac, xa, rfl, ua, la, za⟩ := ha
 have ha : INum w (.agg #[.bool na, .slice ao al ac]) x := ⟨_, _, _, _, _, rfl, ua, la, za⟩
 obtain ⟨nb, bo, bl, bc, xb, rfl, ub, lb, zb⟩ := hb'
 have hb' : INum w (.agg #[.bool nb, .slice bo bl bc]) y := ⟨_, _, _, _, _, rfl, ub, lb, zb⟩
 clear ha hb'
 rw [← za, ← zb] at HZ
 clear za zb
 cases hab : (na == nb)
 ·
  have hab2 := hab
  replace hab : na ≠ nb := by simpa using hab
  by_cases hle : val xb ≤ val xa
  ·
   obtain ⟨W1, hW1⟩ : ∃ W1, W1 = ((w.alloc (.cells #[.bool na, .slice ao al ac] 25)).alloc (.cells #[.bool nb, .slice bo bl bc] 25)).alloc (.cells #[.bool false, .slice none 0 0] 25) := ⟨_, rfl⟩
   have qa : ICell W1 (w.heap.size) na (.slice ao al ac) := by rw [hW1]; exact (icell_step (icell_step (icell_new _ (by simp))))
   have qb : ICell W1 (w.heap.size + 1) nb (.slice bo bl bc) := by rw [hW1]; exact (icell_step (icell_new _ (by simp)))
   have qR : ICell W1 (w.heap.size + 1 + 1) false (.slice none 0 0) := by rw [hW1]; exact (icell_new _ (by simp))
   have hb : Below w.heap.size w W1 := by rw [hW1]; exact bstep (bstep (belowA w _) (belowA _ _)) (belowA _ _)
   have hsz : w.heap.size + 1 + 1 < W1.heap.size := by rw [hW1]; simp
   replace ua := ua.below (Nat.le_refl _) hb
   replace ub := ub.below (Nat.le_refl _) hb
   have HW1 : Hid (W1 = ((w.alloc (.cells #[.bool na, .slice ao al ac] 25)).alloc (.cells #[.bool nb, .slice bo bl bc] 25)).alloc (.cells #[.bool false, .slice none 0 0] 25)) := hW1
   clear hW1
   go_enter Tryz.func97, Tryz.ntmps97
   go_wp2_with fail
   rw [← HW1.out]
   clear HW1
   obtain ⟨g, hg⟩ : ∃ g, g = w.heap.size := ⟨_, rfl⟩
   rw [← hg] at qa qb qR hsz ⊢
   have HG : Hid (g = w.heap.size) := hg
   clear hg
   have hs := sub_ref _ _ _ _ _ ua ub (by omega) (by omega)
   unfold SubTold at hs
   rw [show leB (val xb) (val xa) = true by simp [leB]; omega] at hs
   refine (hs).mono ?_
   rintro e w2 ⟨v, rfl, od, b⟩
   clear hs
   obtain ⟨so, sl, sc, rfl⟩ := od.sl
   replace ua := ua.below (Nat.le_refl _) b
   replace ub := ub.below (Nat.le_refl _) b
   replace qa := qa.below b
   replace qb := qb.below b
   replace qR := qR.below b
   replace hb := bstep hb b
   replace hsz := Nat.lt_of_lt_of_le hsz b.size
   clear b
   have hmk := make_ref na _ _ _ od.num (by have := lim_le ua (n := val xa - val xb) (by omega); omega)
   rw [val_lim, ← zv_sub hab hle, ← HZ.out] at hmk
   obtain ⟨cqa0, cqa1⟩ := qa.cells
   obtain ⟨cqb0, cqb1⟩ := qb.cells
   obtain ⟨cqR0, cqR1⟩ := qR.cells
   go_wp2_with fail
   clear cqa0 cqa1 cqb0 cqb1 cqR0 cqR1
   refine (hmk).mono ?_
   rintro e w3 ⟨v, rfl, ⟨m, rfl, hm⟩, b⟩
   clear hmk
   obtain ⟨mo, ml, mc, rfl⟩ := hm.sl
   have hszz := hsz
   replace ua := ua.below (Nat.le_refl _) b
   replace ub := ub.below (Nat.le_refl _) b
   replace od := od.below b
   replace qa := qa.below b
   replace qb := qb.below b
   replace qR := qR.below b
   replace hb := bstep hb b
   replace hsz := Nat.lt_of_lt_of_le hsz b.size
   clear b
   have HE : Hid (IEnd w (Z) (.returned (.agg #[.bool (decide (Z < 0)), .slice mo ml mc])) ((w3.setCell ⟨g + 1 + 1, 0, none⟩ (.bool (decide (Z < 0)))).setCell ⟨g + 1 + 1, 1, none⟩ (.slice mo ml mc))) := (int_done rfl (by rw [HG.out]; omega) hm hszz hb).i
   have HW : Hid (ICell ((w3.setCell ⟨g + 1 + 1, 0, none⟩ (.bool (decide (Z < 0)))).setCell ⟨g + 1 + 1, 1, none⟩ (.slice mo ml mc)) (g + 1 + 1) (decide (Z < 0)) (.slice mo ml mc)) := qR.write _ _
   obtain ⟨y0, y1⟩ := qR.cells
   have f0 := qR.thaw 0
   have f1 := qR.thaw 1
   generalize decide (Z < 0) = bb at *
   clear hszz
   clear hb hsz hm qa qb qR ua ub od
   go_wp2_with fail
   (try simp only [Exit.inBlock, Exit.then])
   exact bodyPost_ret (results_cell_row rfl _ _ (g + 1 + 1) 25 _ (0, 0) _ rfl HW.out Tryz.underlying25 rfl (by kernel_rfl)) rfl HE.out
  ·
   obtain ⟨W1, hW1⟩ : ∃ W1, W1 = ((w.alloc (.cells #[.bool na, .slice ao al ac] 25)).alloc (.cells #[.bool nb, .slice bo bl bc] 25)).alloc (.cells #[.bool false, .slice none 0 0] 25) := ⟨_, rfl⟩
   have qa : ICell W1 (w.heap.size) na (.slice ao al ac) := by rw [hW1]; exact (icell_step (icell_step (icell_new _ (by simp))))
   have qb : ICell W1 (w.heap.size + 1) nb (.slice bo bl bc) := by rw [hW1]; exact (icell_step (icell_new _ (by simp)))
   have qR : ICell W1 (w.heap.size + 1 + 1) false (.slice none 0 0) := by rw [hW1]; exact (icell_new _ (by simp))
   have hb : Below w.heap.size w W1 := by rw [hW1]; exact bstep (bstep (belowA w _) (belowA _ _)) (belowA _ _)
   have hsz : w.heap.size + 1 + 1 < W1.heap.size := by rw [hW1]; simp
   replace ua := ua.below (Nat.le_refl _) hb
   replace ub := ub.below (Nat.le_refl _) hb
   have HW1 : Hid (W1 = ((w.alloc (.cells #[.bool na, .slice ao al ac] 25)).alloc (.cells #[.bool nb, .slice bo bl bc] 25)).alloc (.cells #[.bool false, .slice none 0 0] 25)) := hW1
   clear hW1
   go_enter Tryz.func97, Tryz.ntmps97
   go_wp2_with fail
   rw [← HW1.out]
   clear HW1
   obtain ⟨g, hg⟩ : ∃ g, g = w.heap.size := ⟨_, rfl⟩
   rw [← hg] at qa qb qR hsz ⊢
   have HG : Hid (g = w.heap.size) := hg
   clear hg
   have hs := sub_ref _ _ _ _ _ ua ub (by omega) (by omega)
   unfold SubTold at hs
   rw [show leB (val xb) (val xa) = false by simp [leB]; omega] at hs
   refine (hs).mono ?_
   rintro e w2 ⟨v, rfl, od, b⟩
   clear hs
   obtain ⟨so, sl, sc, rfl⟩ := od.sl
   replace ua := ua.below (Nat.le_refl _) b
   replace ub := ub.below (Nat.le_refl _) b
   replace qa := qa.below b
   replace qb := qb.below b
   replace qR := qR.below b
   replace hb := bstep hb b
   replace hsz := Nat.lt_of_lt_of_le hsz b.size
   clear b
   obtain ⟨cqa0, cqa1⟩ := qa.cells
   obtain ⟨cqb0, cqb1⟩ := qb.cells
   obtain ⟨cqR0, cqR1⟩ := qR.cells
   go_wp2_with fail
   clear cqa0 cqa1 cqb0 cqb1 cqR0 cqR1
   clear od
   have hs := sub_ref _ _ _ _ _ ub ua (by omega) (by omega)
   unfold SubTold at hs
   rw [show leB (val xa) (val xb) = true by simp [leB]; omega] at hs
   refine (hs).mono ?_
   rintro e w3 ⟨v, rfl, od, b⟩
   clear hs
   obtain ⟨to, tl, tc, rfl⟩ := od.sl
   replace ua := ua.below (Nat.le_refl _) b
   replace ub := ub.below (Nat.le_refl _) b
   replace qa := qa.below b
   replace qb := qb.below b
   replace qR := qR.below b
   replace hb := bstep hb b
   replace hsz := Nat.lt_of_lt_of_le hsz b.size
   clear b
   have hmk := make_ref nb _ _ _ od.num (by have := lim_le ub (n := val xb - val xa) (by omega); omega)
   rw [val_lim, ← zv_sub' hab (by omega), ← HZ.out] at hmk
   obtain ⟨cqa0, cqa1⟩ := qa.cells
   obtain ⟨cqb0, cqb1⟩ := qb.cells
   obtain ⟨cqR0, cqR1⟩ := qR.cells
   go_wp2_with fail
   clear cqa0 cqa1 cqb0 cqb1 cqR0 cqR1
   refine (hmk).mono ?_
   rintro e w4 ⟨v, rfl, ⟨m, rfl, hm⟩, b⟩
   clear hmk
   obtain ⟨mo, ml, mc, rfl⟩ := hm.sl
   have hszz := hsz
   replace ua := ua.below (Nat.le_refl _) b
   replace ub := ub.below (Nat.le_refl _) b
   replace od := od.below b
   replace qa := qa.below b
   replace qb := qb.below b
   replace qR := qR.below b
   replace hb := bstep hb b
   replace hsz := Nat.lt_of_lt_of_le hsz b.size
   clear b
   have HE : Hid (IEnd w (Z) (.returned (.agg #[.bool (decide (Z < 0)), .slice mo ml mc])) ((w4.setCell ⟨g + 1 + 1, 0, none⟩ (.bool (decide (Z < 0)))).setCell ⟨g + 1 + 1, 1, none⟩ (.slice mo ml mc))) := (int_done rfl (by rw [HG.out]; omega) hm hszz hb).i
   have HW : Hid (ICell ((w4.setCell ⟨g + 1 + 1, 0, none⟩ (.bool (decide (Z < 0)))).setCell ⟨g + 1 + 1, 1, none⟩ (.slice mo ml mc)) (g + 1 + 1) (decide (Z < 0)) (.slice mo ml mc)) := qR.write _ _
   obtain ⟨y0, y1⟩ := qR.cells
   have f0 := qR.thaw 0
   have f1 := qR.thaw 1
   generalize decide (Z < 0) = bb at *
   clear hszz
   clear hb hsz hm qa qb qR ua ub od
   go_wp2_with fail
   (try simp only [Exit.inBlock, Exit.then])
   exact bodyPost_ret (results_cell_row rfl _ _ (g + 1 + 1) 25 _ (0, 0) _ rfl HW.out Tryz.underlying25 rfl (by kernel_rfl)) rfl HE.out
 ·
  have e : nb = na := by simpa using (beq_iff_eq.1 hab).symm
  subst e
  clear hab
  have hab : (nb == nb) = true := by simp
  obtain ⟨W1, hW1⟩ : ∃ W1, W1 = ((w.alloc (.cells #[.bool nb, .slice ao al ac] 25)).alloc (.cells #[.bool nb, .slice bo bl bc] 25)).alloc (.cells #[.bool false, .slice none 0 0] 25) := ⟨_, rfl⟩
  have qa : ICell W1 (w.heap.size) nb (.slice ao al ac) := by rw [hW1]; exact (icell_step (icell_step (icell_new _ (by simp))))
  have qb : ICell W1 (w.heap.size + 1) nb (.slice bo bl bc) := by rw [hW1]; exact (icell_step (icell_new _ (by simp)))
  have qR : ICell W1 (w.heap.size + 1 + 1) false (.slice none 0 0) := by rw [hW1]; exact (icell_new _ (by simp))
  have hb : Below w.heap.size w W1 := by rw [hW1]; exact bstep (bstep (belowA w _) (belowA _ _)) (belowA _ _)
  have hsz : w.heap.size + 1 + 1 < W1.heap.size := by rw [hW1]; simp
  replace ua := ua.below (Nat.le_refl _) hb
  replace ub := ub.below (Nat.le_refl _) hb
  have HW1 : Hid (W1 = ((w.alloc (.cells #[.bool nb, .slice ao al ac] 25)).alloc (.cells #[.bool nb, .slice bo bl bc] 25)).alloc (.cells #[.bool false, .slice none 0 0] 25)) := hW1
  clear hW1
  go_enter Tryz.func97, Tryz.ntmps97
  go_wp2_with fail
  rw [← HW1.out]
  clear HW1
  obtain ⟨g, hg⟩ : ∃ g, g = w.heap.size := ⟨_, rfl⟩
  rw [← hg] at qa qb qR hsz ⊢
  have HG : Hid (g = w.heap.size) := hg
  clear hg
  have HZ2 : Hid (Z = zv nb (val xa) + zv nb (val xb)) := HZ.out
  refine region_late [(1, fun w' => w'.cell? ⟨g, 0, none⟩ = some (.bool nb)), (3, fun w' => w'.cell? ⟨g, 1, none⟩ = some (.slice ao al ac)), (5, fun w' => w'.cell? ⟨g + 1, 1, none⟩ = some (.slice bo bl bc))] (by kernel_rfl) ?_
  have hHeld : AllL W1.drew [(1, fun w' => w'.cell? ⟨g, 0, none⟩ = some (.bool nb)), (3, fun w' => w'.cell? ⟨g, 1, none⟩ = some (.slice ao al ac)), (5, fun w' => w'.cell? ⟨g + 1, 1, none⟩ = some (.slice bo bl bc))] := ⟨(show ICell W1.drew (g) nb (.slice ao al ac) from qa).cells.1, (show ICell W1.drew (g) nb (.slice ao al ac) from qa).cells.2, (show ICell W1.drew (g + 1) nb (.slice bo bl bc) from qb).cells.2, trivial⟩
  refine late_fr 0 (v := .pointer (some ⟨g, 0, none⟩)) rfl (Or.inl ⟨by rfl, ?_⟩) hHeld ?_
  · (intro u _; go_simp)
  try simp only [pu1, pu2, pu3, pu4]
  refine late_tk 1 (v := .bool nb) rfl (List.Mem.head _) (Or.inl ⟨by rfl, ?_⟩) hHeld ?_
  · (intro u hu; (try dsimp only at hu); go_split_ands; go_simp)
  try simp only [pu1, pu2, pu3, pu4]
  refine late_fr 2 (v := .pointer (some ⟨g, 1, none⟩)) rfl (Or.inl ⟨by rfl, ?_⟩) hHeld ?_
  · (intro u _; go_simp)
  try simp only [pu1, pu2, pu3, pu4]
  refine late_tk 3 (v := .slice ao al ac) rfl (List.Mem.tail _ (List.Mem.head _)) (Or.inl ⟨by rfl, ?_⟩) hHeld ?_
  · (intro u hu; (try dsimp only at hu); go_split_ands; go_simp)
  try simp only [pu1, pu2, pu3, pu4]
  refine late_fr 4 (v := .pointer (some ⟨g + 1, 1, none⟩)) rfl (Or.inl ⟨by rfl, ?_⟩) hHeld ?_
  · (intro u _; go_simp)
  try simp only [pu1, pu2, pu3, pu4]
  refine late_tk 5 (v := .slice bo bl bc) rfl (List.Mem.tail _ (List.Mem.tail _ (List.Mem.head _))) (Or.inl ⟨by rfl, ?_⟩) hHeld ?_
  · (intro u hu; (try dsimp only at hu); go_split_ands; go_simp)
  try simp only [pu1, pu2, pu3, pu4]
  refine late_st 6 rfl (fun K hK => ?_)
  go_simp
  refine (add_ref _ _ _ _ _ (ua.below (Nat.le_refl _) (below_drew' _)) (ub.below (Nat.le_refl _) (below_drew' _)) (by omega) (by omega)).mono ?_
  rintro e w2 ⟨v, rfl, hv, b2⟩
  have hl9 := lim_sum ua.1 ub.1 la lb
  obtain ⟨so, sl, sc, rfl⟩ := hv.sl
  have us := hv.num
  clear hv
  have B2 : Below W1.heap.size W1 w2 := bstep (below_drew' _) b2
  replace hHeld := AllL.mv (w' := w2) hHeld ⟨(qa.below B2).cells.1, (qa.below B2).cells.2, (qb.below B2).cells.2, trivial⟩
  go_wp2_with fail
  refine hK.out _ _ (AllL.kept hHeld) ?_
  clear hK K
  try simp only [pu1, pu2, pu3, pu4]
  refine late_st 7 rfl (fun K hK => ?_)
  go_simp
  have hmk := make_ref nb _ _ _ us (by omega)
  rw [val_lim, ← zv_add, ← HZ2.out] at hmk
  refine hmk.mono ?_
  rintro e w3 ⟨v, rfl, ⟨m, rfl, hm⟩, b3⟩
  clear hmk
  obtain ⟨mo, ml, mc, rfl⟩ := hm.sl
  have B3 : Below W1.heap.size W1 w3 := bstep B2 b3
  replace hHeld := AllL.mv (w' := w3) hHeld ⟨(qa.below B3).cells.1, (qa.below B3).cells.2, (qb.below B3).cells.2, trivial⟩
  go_wp2_with fail
  refine hK.out _ _ (AllL.kept hHeld) ?_
  clear hK K
  try simp only [pu1, pu2, pu3, pu4]
  have qR2 := qR.below B3
  have HE : Hid (IEnd w (Z) (.returned (.agg #[.bool (decide (Z < 0)), .slice mo ml mc])) ((w3.setCell ⟨g + 1 + 1, 0, none⟩ (.bool (decide (Z < 0)))).setCell ⟨g + 1 + 1, 1, none⟩ (.slice mo ml mc))) := (int_done rfl (by rw [HG.out]; omega) hm (Nat.lt_of_lt_of_le hsz B2.size) (bstep hb B3)).i
  have HW : Hid (ICell ((w3.setCell ⟨g + 1 + 1, 0, none⟩ (.bool (decide (Z < 0)))).setCell ⟨g + 1 + 1, 1, none⟩ (.slice mo ml mc)) (g + 1 + 1) (decide (Z < 0)) (.slice mo ml mc)) := qR2.write _ _
  obtain ⟨y0, y1⟩ := qR2.cells
  have f0 := qR2.thaw 0
  have f1 := qR2.thaw 1
  generalize decide (Z < 0) = bb at *
  clear qR2
  clear us hl9
  refine late_st 8 rfl (fun K hK => ?_)
  go_simp
  refine hK.out _ _ ⟨kpt 7, kpt 6, kpt 6, trivial⟩ ?_
  clear hK K
  try simp only [pu1, pu2, pu3, pu4]
  refine late_done (by kernel_rfl) ?_ _
  clear hHeld
  clear hb hsz hm qa qb qR ua ub b2 b3 B2 B3 
  go_wp2_with fail
  (try simp only [Exit.inBlock, Exit.then])
  exact bodyPost_ret (results_cell_row rfl _ _ (g + 1 + 1) 25 _ (0, 0) _ rfl HW.out Tryz.underlying25 rfl (by kernel_rfl)) rfl HE.out
theorem r_sub {a b : Value} {x y : Int} {w : World} (ha : INum w a x) (hb' : INum w b y) {L : Nat} (hS : Sz y L) (hL : L ≤ 1000000) : Calls Tryz.prog 95 #[a, b] w fun e w' => IEnd w (x - y) e w' := by
 obtain ⟨Z, hZ⟩ : ∃ Z : Int, Z = x - y := ⟨_, rfl⟩
 have HZ : Hid (x + -y = Z) := by show _ = _; rw [hZ]; omega
 rw [← hZ]
 clear hZ
 obtain ⟨na, ao, al, ac, xa, rfl, ua, la, za⟩ := ha
 have ha : INum w (.agg #[.bool na, .slice ao al ac]) x := ⟨_, _, _, _, _, rfl, ua, la, za⟩
 obtain ⟨nb, bo, bl, bc, xb, rfl, ub, lb, zb⟩ := hb'
 have hb' : INum w (.agg #[.bool nb, .slice bo bl bc]) y := ⟨_, _, _, _, _, rfl, ub, lb, zb⟩
 clear ua la za ub lb zb
 obtain ⟨W1, hW1⟩ : ∃ W1, W1 = ((w.alloc (.cells #[.bool na, .slice ao al ac] 25)).alloc (.cells #[.bool nb, .slice bo bl bc] 25)).alloc (.cells #[.bool false, .slice none 0 0] 25) := ⟨_, rfl⟩
 have qa : ICell W1 (w.heap.size) na (.slice ao al ac) := by rw [hW1]; exact (icell_step (icell_step (icell_new _ (by simp))))
 have qb : ICell W1 (w.heap.size + 1) nb (.slice bo bl bc) := by rw [hW1]; exact (icell_step (icell_new _ (by simp)))
 have qR : ICell W1 (w.heap.size + 1 + 1) false (.slice none 0 0) := by rw [hW1]; exact (icell_new _ (by simp))
 have hb : Below w.heap.size w W1 := by rw [hW1]; exact bstep (bstep (belowA w _) (belowA _ _)) (belowA _ _)
 have hsz : w.heap.size + 1 + 1 < W1.heap.size := by rw [hW1]; simp
 replace ha := ha.below hb
 replace hb' := hb'.below hb
 have HW1 : Hid (W1 = ((w.alloc (.cells #[.bool na, .slice ao al ac] 25)).alloc (.cells #[.bool nb, .slice bo bl bc] 25)).alloc (.cells #[.bool false, .slice none 0 0] 25)) := hW1
 clear hW1
 go_enter Tryz.func95, Tryz.ntmps95
 go_wp2_with fail
 rw [← HW1.out]
 clear HW1
 obtain ⟨g, hg⟩ : ∃ g, g = w.heap.size := ⟨_, rfl⟩
 rw [← hg] at qa qb qR hsz ⊢
 have HG : Hid (g = w.heap.size) := hg
 clear hg
 refine region_late [(0, fun w' => w'.cell? ⟨g, 0, none⟩ = some (.bool na) ∧ w'.cell? ⟨g, 1, none⟩ = some (.slice ao al ac)), (1, fun w' => w'.cell? ⟨g + 1, 0, none⟩ = some (.bool nb) ∧ w'.cell? ⟨g + 1, 1, none⟩ = some (.slice bo bl bc))] (by kernel_rfl) ?_
 have hHeld : AllL W1.drew [(0, fun w' => w'.cell? ⟨g, 0, none⟩ = some (.bool na) ∧ w'.cell? ⟨g, 1, none⟩ = some (.slice ao al ac)), (1, fun w' => w'.cell? ⟨g + 1, 0, none⟩ = some (.bool nb) ∧ w'.cell? ⟨g + 1, 1, none⟩ = some (.slice bo bl bc))] := ⟨(show ICell W1.drew (g) na (.slice ao al ac) from qa).cells, (show ICell W1.drew (g + 1) nb (.slice bo bl bc) from qb).cells, trivial⟩
 refine late_tk 0 (v := .agg #[.bool na, .slice ao al ac]) rfl (List.Mem.head _) (Or.inl ⟨by rfl, ?_⟩) hHeld ?_
 · (intro u hu; (try dsimp only at hu); go_split_ands; go_simp)
 try simp only [pu1, pu2, pu3, pu4]
 refine late_tk 1 (v := .agg #[.bool nb, .slice bo bl bc]) rfl (List.Mem.tail _ (List.Mem.head _)) (Or.inl ⟨by rfl, ?_⟩) hHeld ?_
 · (intro u hu; (try dsimp only at hu); go_split_ands; go_simp)
 try simp only [pu1, pu2, pu3, pu4]
 refine late_st 2 rfl (fun K hK => ?_)
 go_simp
 refine (r_neg (hb'.below (below_drew' _))).mono ?_
 rintro e w2 ⟨v, rfl, hv, b2⟩
 obtain ⟨nk, ko, kl, kc, rfl, ik⟩ := hv.see (Sz.neg hS) hL
 clear hv
 have B2 : Below W1.heap.size W1 w2 := bstep (below_drew' _) b2
 replace hHeld := AllL.mv (w' := w2) hHeld ⟨(qa.below B2).cells, (qb.below B2).cells, trivial⟩
 go_wp2_with fail
 refine hK.out _ _ (AllL.kept hHeld) ?_
 clear hK K
 try simp only [pu1, pu2, pu3, pu4]
 refine late_st 3 rfl (fun K hK => ?_)
 go_simp
 have hmk := r_add ((ha.below (below_drew' _)).below b2) ik
 rw [HZ.out] at hmk
 refine hmk.mono ?_
 rintro e w3 ⟨v, rfl, ⟨m, rfl, hm⟩, b3⟩
 clear hmk
 obtain ⟨mo, ml, mc, rfl⟩ := hm.sl
 have B3 : Below W1.heap.size W1 w3 := bstep B2 b3
 replace hHeld := AllL.mv (w' := w3) hHeld ⟨(qa.below B3).cells, (qb.below B3).cells, trivial⟩
 go_wp2_with fail
 refine hK.out _ _ (AllL.kept hHeld) ?_
 clear hK K
 try simp only [pu1, pu2, pu3, pu4]
 have qR2 := qR.below B3
 have HE : Hid (IEnd w (Z) (.returned (.agg #[.bool (decide (Z < 0)), .slice mo ml mc])) ((w3.setCell ⟨g + 1 + 1, 0, none⟩ (.bool (decide (Z < 0)))).setCell ⟨g + 1 + 1, 1, none⟩ (.slice mo ml mc))) := (int_done rfl (by rw [HG.out]; omega) hm (Nat.lt_of_lt_of_le hsz B2.size) (bstep hb B3)).i
 have HW : Hid (ICell ((w3.setCell ⟨g + 1 + 1, 0, none⟩ (.bool (decide (Z < 0)))).setCell ⟨g + 1 + 1, 1, none⟩ (.slice mo ml mc)) (g + 1 + 1) (decide (Z < 0)) (.slice mo ml mc)) := qR2.write _ _
 obtain ⟨y0, y1⟩ := qR2.cells
 have f0 := qR2.thaw 0
 have f1 := qR2.thaw 1
 generalize decide (Z < 0) = bb at *
 clear qR2
 clear ik
 refine late_st 4 rfl (fun K hK => ?_)
 go_simp
 refine hK.out _ _ ⟨kpt 3, kpt 2, trivial⟩ ?_
 clear hK K
 try simp only [pu1, pu2, pu3, pu4]
 refine late_done (by kernel_rfl) ?_ _
 clear hHeld
 clear hb hsz hm qa qb qR ha hb' b2 b3 B2 B3 
 go_wp2_with fail
 (try simp only [Exit.inBlock, Exit.then])
 exact bodyPost_ret (results_cell_row rfl _ _ (g + 1 + 1) 25 _ (0, 0) _ rfl HW.out Tryz.underlying25 rfl (by kernel_rfl)) rfl HE.out
theorem r_cmp {a b : Value} {x y : Int} {w : World} (ha : INum w a x) (hb' : INum w b y) {L M K : Nat} (hT : Sz x M) (hS : Sz y L) (hL1 : M ≤ K) (hL2 : L ≤ K) (hK : K + 1 ≤ 1000000) : Calls Tryz.prog 76 #[a, b] w fun e w' => e = .returned (.int .i64 (cmpZ x y)) ∧ Below w.heap.size w w' := by
 obtain ⟨c, hc⟩ : ∃ c, c = cmpZ x y := ⟨_, rfl⟩
 have HC : Hid (cmpZ (x - y) 0 = c) := by show _ = _; rw [hc]; exact cmpZ_sub x y
 rw [← hc]
 clear hc
 obtain ⟨na, ao, al, ac, xa, rfl, ua, la, za⟩ := ha
 have ha : INum w (.agg #[.bool na, .slice ao al ac]) x := ⟨_, _, _, _, _, rfl, ua, la, za⟩
 obtain ⟨nb, bo, bl, bc, xb, rfl, ub, lb, zb⟩ := hb'
 have hb' : INum w (.agg #[.bool nb, .slice bo bl bc]) y := ⟨_, _, _, _, _, rfl, ub, lb, zb⟩
 clear ua la za ub lb zb
 obtain ⟨W1, hW1⟩ : ∃ W1, W1 = (w.alloc (.cells #[.bool na, .slice ao al ac] 25)).alloc (.cells #[.bool nb, .slice bo bl bc] 25) := ⟨_, rfl⟩
 have qa : ICell W1 (w.heap.size) na (.slice ao al ac) := by rw [hW1]; exact (icell_step (icell_new _ (by simp)))
 have qb : ICell W1 (w.heap.size + 1) nb (.slice bo bl bc) := by rw [hW1]; exact (icell_new _ (by simp))
 have hb : Below w.heap.size w W1 := by rw [hW1]; exact bstep (belowA w _) (belowA _ _)
 have hsz : w.heap.size + 1 < W1.heap.size := by rw [hW1]; simp
 replace ha := ha.below hb
 replace hb' := hb'.below hb
 have HW1 : Hid (W1 = (w.alloc (.cells #[.bool na, .slice ao al ac] 25)).alloc (.cells #[.bool nb, .slice bo bl bc] 25)) := hW1
 clear hW1
 go_enter Tryz.func76, Tryz.ntmps76
 go_wp2_with fail
 rw [← HW1.out]
 clear HW1
 obtain ⟨g, hg⟩ : ∃ g, g = w.heap.size := ⟨_, rfl⟩
 rw [← hg] at qa qb hsz ⊢
 have HG : Hid (g = w.heap.size) := hg
 clear hg
 refine (r_sub ha hb' hS (by omega)).mono ?_
 rintro e w2 ⟨v, rfl, hv, b⟩
 obtain ⟨nk, ko, kl, kc, rfl, ik⟩ := hv.see ((hT.mono hL1).sub (hS.mono hL2)) hK
 clear hv
 replace ha := ha.below b
 replace hb' := hb'.below b
 replace qa := qa.below b
 replace qb := qb.below b
 replace hb := bstep hb b
 replace hsz := Nat.lt_of_lt_of_le hsz b.size
 clear b
 obtain ⟨cqa0, cqa1⟩ := qa.cells
 obtain ⟨cqb0, cqb1⟩ := qb.cells
 go_wp2_with fail
 clear cqa0 cqa1 cqb0 cqb1
 have hsg := r_sign ik
 rw [HC.out] at hsg
 refine (hsg).mono ?_
 rintro e w3 ⟨rfl, b⟩
 clear hsg
 replace ha := ha.below b
 replace hb' := hb'.below b
 replace ik := ik.below b
 replace qa := qa.below b
 replace qb := qb.below b
 replace hb := bstep hb b
 replace hsz := Nat.lt_of_lt_of_le hsz b.size
 clear b
 have HE : Hid (Below w.heap.size w w3) := hb
 clear hb hsz qa qb ha hb' ik
 go_wp2_with fail
 go_ret
 exact ⟨rfl, HE.out⟩
theorem r_of (n : Int) (w : World) (h1 : -9223372036854775808 ≤ n) (h2 : n ≤ 9223372036854775807) : Calls Tryz.prog 96 #[.int .i64 n] w fun e w' => IEnd w n e w' := by
 by_cases hn : 0 ≤ n
 ·
  obtain ⟨k, hk⟩ : ∃ k : Nat, (k : Int) = n := ⟨n.toNat, by omega⟩
  have HK : Hid ((k : Int) = n) := hk
  have e1 : IntKind.u64.wrap n = (k : Int) := by rw [IntKind.wrap_u64]; omega
  have hk2 : k < 9223372036854775808 := by omega
  clear hk
  obtain ⟨W1, hW1⟩ : ∃ W1, W1 = w.alloc (.cells #[.bool false, .slice none 0 0] 25) := ⟨_, rfl⟩
  have qR : ICell W1 (w.heap.size) false (.slice none 0 0) := by rw [hW1]; exact (icell_new _ (by simp))
  have hb : Below w.heap.size w W1 := by rw [hW1]; exact belowA w _
  have hsz : w.heap.size < W1.heap.size := by rw [hW1]; simp
  have HW1 : Hid (W1 = w.alloc (.cells #[.bool false, .slice none 0 0] 25)) := hW1
  clear hW1
  go_enter Tryz.func96, Tryz.ntmps96
  go_wp2_with fail
  rw [← HW1.out]
  clear HW1
  obtain ⟨g, hg⟩ : ∃ g, g = w.heap.size := ⟨_, rfl⟩
  rw [← hg] at qR hsz ⊢
  have HG : Hid (g = w.heap.size) := hg
  clear hg
  have ho := of_ref k W1 (by omega)
  have hlk : (lim k).length ≤ 2 := lim_len_le (by show k < 4294967296 ^ 2; omega)
  refine (ho).mono ?_
  rintro e w2 ⟨v, rfl, ov, b⟩
  clear ho
  obtain ⟨so, sl, sc, rfl⟩ := ov.sl
  have us := ov.num
  clear ov
  replace qR := qR.below b
  replace hb := bstep hb b
  replace hsz := Nat.lt_of_lt_of_le hsz b.size
  clear b
  obtain ⟨cqR0, cqR1⟩ := qR.cells
  go_wp2_with fail
  clear cqR0 cqR1
  have hmk := make_ref false _ _ _ us (by omega)
  rw [val_lim, show zv false k = (k : Int) from rfl, HK.out] at hmk
  clear us
  refine (hmk).mono ?_
  rintro e w3 ⟨v, rfl, ⟨m, rfl, hm⟩, b⟩
  clear hmk
  obtain ⟨mo, ml, mc, rfl⟩ := hm.sl
  have hszz := hsz
  replace qR := qR.below b
  replace hb := bstep hb b
  replace hsz := Nat.lt_of_lt_of_le hsz b.size
  clear b
  have HE : Hid (IEnd w (n) (.returned (.agg #[.bool (decide (n < 0)), .slice mo ml mc])) ((w3.setCell ⟨g, 0, none⟩ (.bool (decide (n < 0)))).setCell ⟨g, 1, none⟩ (.slice mo ml mc))) := (int_done rfl (by rw [HG.out]; omega) hm hszz hb).i
  have HW : Hid (ICell ((w3.setCell ⟨g, 0, none⟩ (.bool (decide (n < 0)))).setCell ⟨g, 1, none⟩ (.slice mo ml mc)) (g) (decide (n < 0)) (.slice mo ml mc)) := qR.write _ _
  obtain ⟨y0, y1⟩ := qR.cells
  have f0 := qR.thaw 0
  have f1 := qR.thaw 1
  generalize decide (n < 0) = bb at *
  clear hszz
  clear hb hsz hm qR
  go_wp2_with fail
  (try simp only [Exit.inBlock, Exit.then])
  exact bodyPost_ret (results_cell_row rfl _ _ (g) 25 _ (0, 0) _ rfl HW.out Tryz.underlying25 rfl (by kernel_rfl)) rfl HE.out
 ·
  obtain ⟨k, hk⟩ : ∃ k : Nat, (k : Int) = -(n + 1) := ⟨(-(n + 1)).toNat, by omega⟩
  have HK2 : Hid (zv true (k + 1) = n) := by show _ = _; unfold zv; simp; omega
  obtain ⟨m1, hm1⟩ : ∃ m, n + 1 = m := ⟨_, rfl⟩
  have e1 : IntKind.i64.wrap (n + 1) = m1 := by rw [IntKind.wrap_i64]; omega
  have e2 : IntKind.i64.wrap (-m1) = (k : Int) := by rw [IntKind.wrap_i64]; omega
  have e3 : IntKind.u64.wrap (k : Int) = (k : Int) := by rw [IntKind.wrap_u64]; omega
  have hk2 : k < 9223372036854775808 := by omega
  have hn2 : n < 0 := by omega
  clear hk hm1
  obtain ⟨W1, hW1⟩ : ∃ W1, W1 = w.alloc (.cells #[.bool false, .slice none 0 0] 25) := ⟨_, rfl⟩
  have qR : ICell W1 (w.heap.size) false (.slice none 0 0) := by rw [hW1]; exact (icell_new _ (by simp))
  have hb : Below w.heap.size w W1 := by rw [hW1]; exact belowA w _
  have hsz : w.heap.size < W1.heap.size := by rw [hW1]; simp
  have HW1 : Hid (W1 = w.alloc (.cells #[.bool false, .slice none 0 0] 25)) := hW1
  clear hW1
  go_enter Tryz.func96, Tryz.ntmps96
  go_wp2_with fail
  rw [← HW1.out]
  clear HW1
  obtain ⟨g, hg⟩ : ∃ g, g = w.heap.size := ⟨_, rfl⟩
  rw [← hg] at qR hsz ⊢
  have HG : Hid (g = w.heap.size) := hg
  clear hg
  have ho := of_ref k W1 (by omega)
  have hlk : (lim k).length ≤ 2 := lim_len_le (by show k < 4294967296 ^ 2; omega)
  refine (ho).mono ?_
  rintro e w2 ⟨v, rfl, ov, b⟩
  clear ho
  obtain ⟨so, sl, sc, rfl⟩ := ov.sl
  have us := ov.num
  clear ov
  replace qR := qR.below b
  replace hb := bstep hb b
  replace hsz := Nat.lt_of_lt_of_le hsz b.size
  clear b
  obtain ⟨W3, hW3⟩ : ∃ W, W = w2.alloc (.cells #[.int .u32 1] 37) := ⟨_, rfl⟩
  have uo : Num W3 (.slice (some ⟨w2.heap.size, 0, none⟩) 1 1) [1] := by rw [hW3]; exact (Own.lit (B := 0) 37 w2 #[.int .u32 1] [1] (by intro x hx; simp at hx; omega) (Nat.zero_le _) (by simp [maxLen]) (by simp [U])).num
  have b : Below w2.heap.size w2 W3 := by rw [hW3]; exact belowA _ _
  replace us := us.below (Nat.le_refl _) b
  replace qR := qR.below b
  replace hb := bstep hb b
  replace hsz := Nat.lt_of_lt_of_le hsz b.size
  clear b
  have HW3 : Hid (W3 = w2.alloc (.cells #[.int .u32 1] 37)) := hW3
  clear hW3
  go_wp2_with fail
  rw [← HW3.out]
  clear HW3
  have hs := add_ref _ _ _ _ _ us uo (by omega) (by decide)
  rw [val_lim, show val [1] = 1 from rfl] at hs
  have hlk1 : (lim (k + 1)).length ≤ 3 := lim_len_le (by show k + 1 < 4294967296 ^ 3; omega)
  clear us
  clear uo
  refine (hs).mono ?_
  rintro e w4 ⟨v, rfl, ov, b⟩
  clear hs
  obtain ⟨to, tl, tc, rfl⟩ := ov.sl
  have us := ov.num
  clear ov
  replace qR := qR.below b
  replace hb := bstep hb b
  replace hsz := Nat.lt_of_lt_of_le hsz b.size
  clear b
  obtain ⟨cqR0, cqR1⟩ := qR.cells
  go_wp2_with fail
  clear cqR0 cqR1
  have hmk := make_ref true _ _ _ us (by omega)
  rw [val_lim, HK2.out] at hmk
  clear us
  refine (hmk).mono ?_
  rintro e w5 ⟨v, rfl, ⟨m, rfl, hm⟩, b⟩
  clear hmk
  obtain ⟨mo, ml, mc, rfl⟩ := hm.sl
  have hszz := hsz
  replace qR := qR.below b
  replace hb := bstep hb b
  replace hsz := Nat.lt_of_lt_of_le hsz b.size
  clear b
  have HE : Hid (IEnd w (n) (.returned (.agg #[.bool (decide (n < 0)), .slice mo ml mc])) ((w5.setCell ⟨g, 0, none⟩ (.bool (decide (n < 0)))).setCell ⟨g, 1, none⟩ (.slice mo ml mc))) := (int_done rfl (by rw [HG.out]; omega) hm hszz hb).i
  have HW : Hid (ICell ((w5.setCell ⟨g, 0, none⟩ (.bool (decide (n < 0)))).setCell ⟨g, 1, none⟩ (.slice mo ml mc)) (g) (decide (n < 0)) (.slice mo ml mc)) := qR.write _ _
  obtain ⟨y0, y1⟩ := qR.cells
  have f0 := qR.thaw 0
  have f1 := qR.thaw 1
  generalize decide (n < 0) = bb at *
  clear hszz
  clear hb hsz hm qR
  go_wp2_with fail
  (try simp only [Exit.inBlock, Exit.then])
  exact bodyPost_ret (results_cell_row rfl _ _ (g) 25 _ (0, 0) _ rfl HW.out Tryz.underlying25 rfl (by kernel_rfl)) rfl HE.out

def und (q : Nat) : Int := if q = 0 then 1 else q
theorem und_pos (q : Nat) : 0 < und q := by unfold und; split <;> omega
theorem und_ne (q : Nat) : und q ≠ 0 := by have := und_pos q; omega
def rq (p : Int) (q : Nat) : Rat := Rat.divInt p (und q)
theorem rq_std (r : Rat) : rq r.num r.den = r := by
 unfold rq und
 rw [if_neg r.den_nz]
 exact Rat.num_divInt_den r
theorem rq_add (p p' : Int) (q q' : Nat) : Rat.divInt (p * und q' + p' * und q) (und q * und q') = rq p q + rq p' q' := (Rat.divInt_add_divInt _ _ (und_ne q) (und_ne q')).symm
theorem rq_mul (p p' : Int) (q q' : Nat) : Rat.divInt (p * p') (und q * und q') = rq p q * rq p' q' := (Rat.divInt_mul_divInt _ _).symm
theorem rq_neg (p : Int) (q : Nat) : Rat.divInt (-p) (und q) = -rq p q := (Rat.neg_divInt _ _).symm
theorem div_parts {p q : Int} (hq : 0 < q) : ∃ k : Int, 0 < k ∧ p = (Rat.divInt p q).num * k ∧ q = (Rat.divInt p q).den * k := by
 refine ⟨(q.gcd p : Int), ?_, ?_, ?_⟩
 ·
  have h : 0 < q.gcd p := Int.gcd_pos_of_ne_zero_left _ (by omega)
  omega
 · rw [Rat.num_divInt, Int.sign_eq_one_of_pos hq, Int.one_mul, Int.ediv_mul_cancel (Int.gcd_dvd_right ..)]
 ·
  rw [Rat.den_divInt, if_neg (by omega)]
  have h : q.gcd p ∣ q.natAbs := Int.natAbs_dvd_natAbs.2 (Int.gcd_dvd_left ..) |> fun h => by simpa using h
  have h2 := Nat.div_mul_cancel h
  have h3 : ((q.natAbs / q.gcd p * q.gcd p : Nat) : Int) = (q.natAbs : Int) := by rw [h2]
  rw [Int.natCast_mul] at h3
  omega
theorem rq_parts (p : Int) (q : Nat) : ∃ k : Int, 0 < k ∧ p = (rq p q).num * k ∧ und q = (rq p q).den * k := div_parts (und_pos q)

def cmpQ (x y : Rat) : Int := cmpZ (x.num * y.den) (y.num * x.den)
def sgnQ (x : Rat) : Int := cmpZ x.num 0
theorem cmpZ_scale {x y k : Int} (hk : 0 < k) : cmpZ (x * k) (y * k) = cmpZ x y := by
 unfold cmpZ
 have h1 : x * k < y * k ↔ x < y := ⟨fun h => Int.lt_of_mul_lt_mul_right h (Int.le_of_lt hk), fun h => Int.mul_lt_mul_of_pos_right h hk⟩
 have h2 : x * k = y * k ↔ x = y := ⟨fun h => Int.eq_of_mul_eq_mul_right (by omega) h, fun h => by rw [h]⟩
 simp only [h1, h2]
theorem mul4 (a b c d : Int) : a * b * (c * d) = a * c * (b * d) := by rw [Int.mul_assoc, Int.mul_assoc, Int.mul_left_comm b]
theorem cmp_rq (p p' : Int) (q q' : Nat) : cmpZ (p * und q') (p' * und q) = cmpQ (rq p q) (rq p' q') := by
 obtain ⟨k, hk, e1, e2⟩ := rq_parts p q
 obtain ⟨k', hk', e3, e4⟩ := rq_parts p' q'
 unfold cmpQ
 have h1 : p * und q' = (rq p q).num * (rq p' q').den * (k * k') := by
  rw [e4]
  conv => lhs; rw [e1]
  rw [mul4]
 have h2 : p' * und q = (rq p' q').num * (rq p q).den * (k * k') := by
  rw [e2]
  conv => lhs; rw [e3]
  rw [mul4, Int.mul_comm k' k]
 rw [h1, h2]
 exact cmpZ_scale (Int.mul_pos hk hk')
theorem sgn_rq (p : Int) (q : Nat) : cmpZ p 0 = sgnQ (rq p q) := by
 obtain ⟨k, hk, e1, e2⟩ := rq_parts p q
 unfold sgnQ
 have h := cmpZ_scale (x := (rq p q).num) (y := 0) hk
 rw [← e1, Int.zero_mul] at h
 exact h
theorem low_num {p q : Int} (hq : q ≠ 0) : p.tdiv (zv (decide (q < 0)) (Nat.gcd p.natAbs q.natAbs)) = (Rat.divInt p q).num := by
 rw [Rat.num_divInt]
 have hg : q.gcd p = Nat.gcd p.natAbs q.natAbs := by rw [Int.gcd_comm]; rfl
 rw [hg]
 have hpos : 0 < Nat.gcd p.natAbs q.natAbs := Nat.gcd_pos_of_pos_right _ (by omega)
 have hd : ((Nat.gcd p.natAbs q.natAbs : Nat) : Int) ∣ p := Int.natCast_dvd_natCast.2 (Nat.gcd_dvd_left ..) |> fun h => Int.dvd_natAbs.1 h
 obtain ⟨k, hk⟩ := hd
 obtain ⟨g, hgg⟩ : ∃ g, g = Nat.gcd p.natAbs q.natAbs := ⟨_, rfl⟩
 rw [← hgg] at hk hpos ⊢
 clear hgg hg
 have hg0 : (g : Int) ≠ 0 := by omega
 rw [hk]
 unfold zv
 rcases Int.lt_or_gt_of_ne hq with h | h
 · rw [if_pos (decide_eq_true h), Int.sign_eq_neg_one_of_neg h, Int.tdiv_neg, Int.mul_tdiv_cancel_left _ hg0, Int.neg_mul, Int.one_mul, ← Int.mul_neg, Int.mul_ediv_cancel_left _ hg0]
 · rw [if_neg (by simp; omega), Int.sign_eq_one_of_pos h, Int.mul_tdiv_cancel_left _ hg0, Int.one_mul, Int.mul_ediv_cancel_left _ hg0]
theorem low_den {p q : Int} (hq : q ≠ 0) : q.tdiv (zv (decide (q < 0)) (Nat.gcd p.natAbs q.natAbs)) = ((Rat.divInt p q).den : Int) := by
 rw [Rat.den_divInt, if_neg hq]
 have hg : q.gcd p = Nat.gcd p.natAbs q.natAbs := by rw [Int.gcd_comm]; rfl
 rw [hg]
 have hpos : 0 < Nat.gcd p.natAbs q.natAbs := Nat.gcd_pos_of_pos_right _ (by omega)
 obtain ⟨k, hk⟩ := Nat.gcd_dvd_right p.natAbs q.natAbs
 obtain ⟨g, hgg⟩ : ∃ g, g = Nat.gcd p.natAbs q.natAbs := ⟨_, rfl⟩
 rw [← hgg] at hk hpos ⊢
 clear hgg hg
 have hg0 : (g : Int) ≠ 0 := by omega
 rw [hk, Nat.mul_div_cancel_left _ hpos]
 unfold zv
 rcases Int.lt_or_gt_of_ne hq with h | h
 ·
  have e : q = -((g : Int) * k) := by rw [← Int.natCast_mul]; omega
  rw [if_pos (decide_eq_true h), e, Int.neg_tdiv, Int.tdiv_neg, Int.mul_tdiv_cancel_left _ hg0]; omega
 ·
  have e : q = (g : Int) * k := by rw [← Int.natCast_mul]; omega
  rw [if_neg (by simp; omega), e, Int.mul_tdiv_cancel_left _ hg0]
theorem num_le {p q : Int} (hq : q ≠ 0) : (Rat.divInt p q).num.natAbs ≤ p.natAbs := by
 rw [← low_num hq, Int.natAbs_tdiv]
 exact Nat.div_le_self ..
theorem den_le {p q : Int} (hq : q ≠ 0) : (Rat.divInt p q).den ≤ q.natAbs := by
 rw [Rat.den_divInt, if_neg hq]
 exact Nat.div_le_self ..
structure RSz (r : Rat) (L : Nat) : Prop where
 num : Sz r.num L
 den : Sz (r.den : Int) L
theorem RSz.mono {r : Rat} {L M : Nat} (h : RSz r L) (hm : L ≤ M) : RSz r M := ⟨h.num.mono hm, h.den.mono hm⟩
theorem RSz.of {p q : Int} {L : Nat} (hq : q ≠ 0) (hp : Sz p L) (hd : Sz q L) : RSz (Rat.divInt p q) L :=
 ⟨hp.le (num_le hq), hd.le (by rw [Int.natAbs_natCast]; exact den_le hq)⟩
theorem rsz_add {p p' : Int} {q q' : Nat} {L M : Nat} (h1 : Sz p L) (h2 : Sz (und q) L) (h3 : Sz p' M) (h4 : Sz (und q') M) : RSz (rq p q + rq p' q') (L + M + 1) := by
 rw [← rq_add]
 refine RSz.of (Int.mul_ne_zero (und_ne _) (und_ne _)) ((h1.mul h4).add ?_) ((h2.mul h4).mono (Nat.le_succ _))
 rw [Nat.add_comm]
 exact h3.mul h2
theorem rsz_neg {p : Int} {q : Nat} {L : Nat} (h1 : Sz p L) (h2 : Sz (und q) L) : RSz (-rq p q) L := by
 rw [← rq_neg]
 exact RSz.of (und_ne _) h1.neg h2
theorem zv_dec {n : Bool} {k : Nat} (h : zv n k ≠ 0) : n = decide (zv n k < 0) := by
 cases n
 · simp [zv]
 ·
  simp [zv] at h ⊢
  omega
open Go.RowKit

theorem window_math {x y z t P Q V B : Nat} (hB : B = P * Q) (hP : 0 < P) (hx : x < B) (hy : y < B) (hV : V = x + B * y + B * B * z + B * B * B * t) :
  V / P % (B * B) = x / P + Q * y + Q * B * (z % P) := by
 have e1 : V / P = x / P + (Q * y + Q * B * z + Q * B * B * t) := by
  have h1 : V = x + P * (Q * y + Q * B * z + Q * B * B * t) := by
   rw [hV]
   have k1 : P * (Q * y) = B * y := by rw [← Nat.mul_assoc, ← hB]
   have k2 : P * (Q * B * z) = B * B * z := by rw [show P * (Q * B * z) = (P * Q) * (B * z) by simp only [Nat.mul_assoc], ← hB, Nat.mul_assoc]
   have k3 : P * (Q * B * B * t) = B * B * B * t := by rw [show P * (Q * B * B * t) = (P * Q) * (B * B * t) by simp only [Nat.mul_assoc], ← hB]; simp only [Nat.mul_assoc]
   rw [Nat.mul_add, Nat.mul_add, k1, k2, k3]; omega
  rw [h1, Nat.add_mul_div_left _ _ hP]
 have e2 : Q * B * z = Q * B * (z % P) + B * B * (z / P) := by
  conv => lhs; rw [← Nat.mod_add_div z P, Nat.mul_add]
  congr 1
  rw [← Nat.mul_assoc]; congr 1
  rw [Nat.mul_right_comm, Nat.mul_comm Q P, ← hB]
 have e3 : Q * B * B * t = B * B * (Q * t) := by rw [Nat.mul_assoc Q B B, Nat.mul_assoc, Nat.mul_left_comm]
 have hX : x / P < Q := Nat.div_lt_of_lt_mul (by rw [← hB]; exact hx)
 have hZ : Q * B * (z % P) + Q * B ≤ B * B := by
  have h1 : Q * B * (z % P + 1) ≤ Q * B * P := Nat.mul_le_mul_left _ (Nat.mod_lt _ hP)
  rw [Nat.mul_add, Nat.mul_one] at h1
  have h2 : Q * B * P = B * B := by rw [Nat.mul_right_comm, Nat.mul_comm Q P, ← hB]
  omega
 have hY : Q * y + Q ≤ Q * B := by
  have h1 : Q * (y + 1) ≤ Q * B := Nat.mul_le_mul_left _ hy
  rw [Nat.mul_add, Nat.mul_one] at h1; exact h1
 rw [e1, e2, e3, show x / P + (Q * y + (Q * B * (z % P) + B * B * (z / P)) + B * B * (Q * t)) = (x / P + Q * y + Q * B * (z % P)) + B * B * (z / P + Q * t) by rw [Nat.mul_add]; omega, Nat.add_mul_mod_self_left]
 exact Nat.mod_eq_of_lt (by omega)
theorem three_limbs {X : List Nat} (hX : limbs X) (k : Nat) : ∃ R, val X / 4294967296 ^ k = X.getD k 0 + 4294967296 * X.getD (k + 1) 0 + 4294967296 * 4294967296 * X.getD (k + 2) 0 + 4294967296 * 4294967296 * 4294967296 * R := by
 obtain ⟨R, h⟩ := two_limbs hX k
 obtain ⟨R2, h2⟩ := two_limbs hX (k + 2)
 have h3 : val X / 4294967296 ^ (k + 2) = R := by
  rw [Nat.pow_add, ← Nat.div_div_eq_div_mul, h, show (4294967296 : Nat) ^ 2 = 4294967296 * 4294967296 from rfl]
  have a := limb_lt hX k
  have b := limb_lt hX (k + 1)
  rw [Nat.add_mul_div_left _ _ (by decide), Nat.div_eq_of_lt (by omega), Nat.zero_add]
 rw [h3] at h2
 refine ⟨X.getD (k + 3) 0 + 4294967296 * R2, ?_⟩
 rw [h, h2, show k + 2 + 1 = k + 3 by omega]
 simp only [Nat.mul_add, Nat.mul_assoc]
 omega
open Go.RowKit

theorem shr_eq {x off X : Nat} (h : off ≤ 63) (hX : X = x / 2 ^ off) : Op.shift .shr .u64 (x : Int) .i64 (off : Int) = pure (.int .u64 (X : Int)) := by
 unfold Op.shift
 rw [if_neg (by omega)]
 have h1 : min (Int.toNat (off : Int)) IntKind.u64.bits = off := by rw [Int.toNat_natCast]; exact Nat.min_eq_left (by show off ≤ 64; omega)
 simp only [h1]
 congr 2
 rw [Int.fdiv_eq_ediv_of_nonneg _ (by exact Int.le_of_lt (Int.pow_pos (by decide))), hX]
 simp
theorem shl_eq {y r Y : Nat} (h : r ≤ 64) (hY : Y = y * 2 ^ r % 18446744073709551616) : Op.shift .shl .u64 (y : Int) .i64 (r : Int) = pure (.int .u64 (Y : Int)) := by
 unfold Op.shift
 rw [if_neg (by omega)]
 have h1 : min (Int.toNat (r : Int)) IntKind.u64.bits = r := by rw [Int.toNat_natCast]; exact Nat.min_eq_left h
 simp only [h1]
 congr 2
 rw [IntKind.wrap_u64, hY]
 simp
theorem or_add {a b i : Nat} (h : a < 2 ^ i) (hs : a + b * 2 ^ i < 18446744073709551616) : bits BinOp.or IntKind.u64 (a : Int) ((b * 2 ^ i : Nat) : Int) = ((a + b * 2 ^ i : Nat) : Int) := by
 rw [bits_or_u64_nat a (b * 2 ^ i) (by omega) (by omega)]
 congr 1
 have h2 := Nat.shiftLeft_add_eq_or_of_lt h b
 rw [Nat.shiftLeft_eq] at h2
 rw [Nat.or_comm, ← h2, Nat.add_comm]
theorem window_any (u : Value) (xs : List Nat) (n : Nat) (w : World) (h : Num w u xs) (hn : n ≤ 1000000000) :
  Calls Tryz.prog 137 #[u, .int .i64 (n : Int)] w fun e w' => e = .returned (.int .u64 ((val xs / 2 ^ n % 18446744073709551616 : Nat) : Int)) ∧ ∃ q, w' = w.drewN q := by
 obtain ⟨ao, cap, rfl, _, _⟩ : ∃ ao cap, u = .slice ao xs.length cap ∧ xs.length ≤ cap ∧ cap ≤ 9223372036854775807 := by
  obtain ⟨_, ao, cap, e, h1, h2, _⟩ := h
  exact ⟨ao, cap, e, h1, h2⟩
 obtain ⟨s, hs⟩ : ∃ s, s = n / 32 := ⟨_, rfl⟩
 obtain ⟨off, ho⟩ : ∃ off, off = n % 32 := ⟨_, rfl⟩
 have e1 : (n : Int) / 32 = (s : Int) := by omega
 have e2 : (n : Int) % 32 = (off : Int) := by omega
 have ho1 : off ≤ 31 := by omega
 have hx0 := limb_lt h.1 s
 have hy0 := limb_lt h.1 (s + 1)
 have hz0 := limb_lt h.1 (s + 2)
 obtain ⟨t, ht⟩ := three_limbs h.1 s
 have hBP : 4294967296 = 2 ^ off * 2 ^ (32 - off) := B_split (by omega)
 have HM : Hid (val xs / 2 ^ n % 18446744073709551616 = xs.getD s 0 / 2 ^ off + 2 ^ (32 - off) * xs.getD (s + 1) 0 + 2 ^ (32 - off) * 4294967296 * (xs.getD (s + 2) 0 % 2 ^ off)) := by
  show _ = _
  have h1 := window_math (V := val xs / 4294967296 ^ s) hBP (Nat.two_pow_pos off) hx0 hy0 ht
  rw [Nat.div_div_eq_div_mul, show 4294967296 ^ s * 2 ^ off = 2 ^ n by rw [show n = 32 * s + off by omega, Nat.pow_add, Nat.pow_mul]] at h1
  exact h1
 have HL0 : Hid (∀ W, W.heap = w.heap → Calls Tryz.prog 115 #[.slice ao xs.length cap, .int .i64 (s : Int)] W fun e w' => e = .returned (.int .u64 ((xs.getD s 0 : Nat) : Int)) ∧ w' = W) := fun W hW => limb_any _ _ (s : Int) W (h.same hW) (by omega)
 obtain ⟨s1, hs1⟩ : ∃ s1, s1 = s + 1 := ⟨_, rfl⟩
 obtain ⟨s2, hs2⟩ : ∃ s2, s2 = s + 2 := ⟨_, rfl⟩
 have ea : (s : Int) + 1 = (s1 : Int) := by omega
 have eb : (s : Int) + 2 = (s2 : Int) := by omega
 have HL1 : Hid (∀ W, W.heap = w.heap → Calls Tryz.prog 115 #[.slice ao xs.length cap, .int .i64 (s1 : Int)] W fun e w' => e = .returned (.int .u64 ((xs.getD (s + 1) 0 : Nat) : Int)) ∧ w' = W) := fun W hW => by have := limb_any _ _ (s1 : Int) W (h.same hW) (by omega); rw [Int.toNat_natCast, hs1] at this; rw [hs1]; exact this
 have HL2 : Hid (∀ W, W.heap = w.heap → Calls Tryz.prog 115 #[.slice ao xs.length cap, .int .i64 (s2 : Int)] W fun e w' => e = .returned (.int .u64 ((xs.getD (s + 2) 0 : Nat) : Int)) ∧ w' = W) := fun W hW => by have := limb_any _ _ (s2 : Int) W (h.same hW) (by omega); rw [Int.toNat_natCast, hs2] at this; rw [hs2]; exact this
 generalize xs.getD s 0 = x at *
 generalize xs.getD (s + 1) 0 = y at *
 generalize xs.getD (s + 2) 0 = z at *
 obtain ⟨Q, hQ⟩ : ∃ Q, Q = 2 ^ (32 - off) := ⟨_, rfl⟩
 obtain ⟨P, hP⟩ : ∃ P, P = 2 ^ off := ⟨_, rfl⟩
 have hPpos : 0 < P := by rw [hP]; exact Nat.two_pow_pos _
 obtain ⟨X, hX⟩ : ∃ X, X = x / 2 ^ off := ⟨_, rfl⟩
 obtain ⟨Y, hY⟩ : ∃ Y, Y = y * 2 ^ (32 - off) := ⟨_, rfl⟩
 obtain ⟨Z, hZ⟩ : ∃ Z, Z = z % 2 ^ off * 2 ^ (64 - off) := ⟨_, rfl⟩
 have hXQ : X < 2 ^ (32 - off) := by rw [hX]; exact Nat.div_lt_of_lt_mul (by rw [← hBP]; exact hx0)
 have h64 : 2 ^ (64 - off) = 2 ^ (32 - off) * 4294967296 := by rw [show 64 - off = (32 - off) + 32 by omega, Nat.pow_add]
 have hXY : X + Y < 2 ^ (64 - off) := by
  rw [h64, hY]
  have h1 : 2 ^ (32 - off) * (y + 1) ≤ 2 ^ (32 - off) * 4294967296 := Nat.mul_le_mul_left _ hy0
  rw [Nat.mul_add, Nat.mul_one, Nat.mul_comm _ y] at h1
  omega
 have hT : 2 ^ (64 - off) * 2 ^ off = 18446744073709551616 := by rw [← Nat.pow_add, show 64 - off + off = 64 by omega]
 have hXYZ : X + Y + Z < 18446744073709551616 := by
  have h1 : 2 ^ (64 - off) * (z % 2 ^ off + 1) ≤ 2 ^ (64 - off) * 2 ^ off := Nat.mul_le_mul_left _ (Nat.mod_lt _ (Nat.two_pow_pos off))
  rw [hT, Nat.mul_add, Nat.mul_one, Nat.mul_comm _ (z % 2 ^ off), ← hZ] at h1
  omega
 obtain ⟨r, hr⟩ : ∃ r, r = 32 - off := ⟨_, rfl⟩
 have er : (32 : Int) - (off : Int) = (r : Int) := by omega
 obtain ⟨R, hR⟩ : ∃ R, R = 64 - off := ⟨_, rfl⟩
 have eR : (64 : Int) - (off : Int) = (R : Int) := by omega
 have f_1 : (x : Int) / 2 ^ off = (X : Int) := by rw [hX]; simp
 have e_1 := shr_eq (x := x) (off := off) (X := X) (by omega) hX
 have e_2 := shl_eq (y := y) (r := r) (Y := Y) (by omega) (by rw [hr, ← hY]; exact (Nat.mod_eq_of_lt (by omega)).symm)
 have e_3 := shl_eq (y := z) (r := R) (Y := Z) (by omega) (by
  rw [hR, hZ, ← hT, Nat.mul_comm z, Nat.mul_mod_mul_left, Nat.mul_comm])
 have o1 : bits BinOp.or IntKind.u64 (X : Int) (Y : Int) = ((X + Y : Nat) : Int) := by rw [hY]; exact or_add hXQ (by rw [← hY]; omega)
 have o2 : bits BinOp.or IntKind.u64 ((X + Y : Nat) : Int) (Z : Int) = ((X + Y + Z : Nat) : Int) := by rw [hZ]; exact or_add hXY (by rw [← hZ]; exact hXYZ)
 obtain ⟨XY, hXYe⟩ : ∃ XY, XY = X + Y := ⟨_, rfl⟩
 obtain ⟨XYZ, hXYZe⟩ : ∃ XYZ, XYZ = X + Y + Z := ⟨_, rfl⟩
 rw [← hXYe] at o1 o2
 rw [hXYe, ← hXYZe, ← hXYe] at o2
 have HRES : Hid (val xs / 2 ^ n % 18446744073709551616 = XYZ) := by
  show _ = _
  rw [HM.out, hXYZe, hX, hY, hZ, h64, Nat.mul_comm (2 ^ (32 - off)) y, Nat.mul_comm (z % 2 ^ off)]
 obtain ⟨len, hlen⟩ : ∃ len, len = xs.length := ⟨_, rfl⟩
 rw [← hlen] at HL0 HL1 HL2 ⊢
 clear hlen hs1 hs2 hX hY hZ hXQ h64 hXY hT hXYZ hXYe hXYZe hQ hP hBP ht HM hs ho hr hR h
 go_enter Tryz.func137, Tryz.ntmps137
 go_wp2
 have p1 : (0 : Int) ≤ (off : Int) := by omega
 have q1 : ¬ (off : Int) < 0 := by omega
 have q2 : ¬ (r : Int) < 0 := by omega
 have q3 : ¬ (R : Int) < 0 := by omega
 have wa : IntKind.i64.wrap ((s : Int) + 1) = (s1 : Int) := by rw [IntKind.wrap_i64]; omega
 have wb : IntKind.i64.wrap ((s : Int) + 2) = (s2 : Int) := by rw [IntKind.wrap_i64]; omega
 have wr : IntKind.i64.wrap (32 - (off : Int)) = (r : Int) := by rw [IntKind.wrap_i64]; omega
 have wR : IntKind.i64.wrap (64 - (off : Int)) = (R : Int) := by rw [IntKind.wrap_i64]; omega
 clear ea eb er eR
 refine region_late [] (by kernel_rfl) ?_
 have hHeld : AllL w.drew [] := trivial
 refine late_fr 0 (v := .slice ao len cap) rfl (Or.inl ⟨by rfl, ?_⟩) hHeld ?_
 · (intro u _; go_simp)
 try simp only [pu1, pu2, pu3, pu4]
 refine late_fr 1 (v := .int .i64 (s : Int)) rfl (Or.inl ⟨by rfl, ?_⟩) hHeld ?_
 · (intro u _; go_simp)
 try simp only [pu1, pu2, pu3, pu4]
 refine late_fr 3 (v := .int .i64 (off : Int)) rfl (Or.inl ⟨by rfl, ?_⟩) hHeld ?_
 · (intro u _; go_simp)
 try simp only [pu1, pu2, pu3, pu4]
 refine late_fr 5 (v := .slice ao len cap) rfl (Or.inl ⟨by rfl, ?_⟩) hHeld ?_
 · (intro u _; go_simp)
 try simp only [pu1, pu2, pu3, pu4]
 refine late_fr 6 (v := .int .i64 (s : Int)) rfl (Or.inl ⟨by rfl, ?_⟩) hHeld ?_
 · (intro u _; go_simp)
 try simp only [pu1, pu2, pu3, pu4]
 refine late_fr 7 (v := .int .i64 (s1 : Int)) rfl (Or.inl ⟨by rfl, ?_⟩) hHeld ?_
 · (intro u _; go_simp)
 try simp only [pu1, pu2, pu3, pu4]
 refine late_fr 9 (v := .int .i64 (off : Int)) rfl (Or.inl ⟨by rfl, ?_⟩) hHeld ?_
 · (intro u _; go_simp)
 try simp only [pu1, pu2, pu3, pu4]
 refine late_fr 10 (v := .int .i64 (r : Int)) rfl (Or.inl ⟨by rfl, ?_⟩) hHeld ?_
 · (intro u _; go_simp)
 try simp only [pu1, pu2, pu3, pu4]
 refine late_fr 13 (v := .slice ao len cap) rfl (Or.inl ⟨by rfl, ?_⟩) hHeld ?_
 · (intro u _; go_simp)
 try simp only [pu1, pu2, pu3, pu4]
 refine late_fr 14 (v := .int .i64 (s : Int)) rfl (Or.inl ⟨by rfl, ?_⟩) hHeld ?_
 · (intro u _; go_simp)
 try simp only [pu1, pu2, pu3, pu4]
 refine late_fr 15 (v := .int .i64 (s2 : Int)) rfl (Or.inl ⟨by rfl, ?_⟩) hHeld ?_
 · (intro u _; go_simp)
 try simp only [pu1, pu2, pu3, pu4]
 refine late_fr 17 (v := .int .i64 (off : Int)) rfl (Or.inl ⟨by rfl, ?_⟩) hHeld ?_
 · (intro u _; go_simp)
 try simp only [pu1, pu2, pu3, pu4]
 refine late_fr 18 (v := .int .i64 (R : Int)) rfl (Or.inl ⟨by rfl, ?_⟩) hHeld ?_
 · (intro u _; go_simp)
 try simp only [pu1, pu2, pu3, pu4]
 refine late_st 2 rfl (fun K hK => ?_)
 go_simp
 refine (HL0.out w.drew rfl).mono ?_
 rintro e w' ⟨rfl, rfl⟩
 go_wp2_with fail
 refine hK.out _ _ (AllL.kept hHeld) ?_
 clear hK K
 try simp only [pu1, pu2, pu3, pu4]
 refine late_fr 4 (v := .int .u64 (X : Int)) rfl (Or.inl ⟨by rfl, ?_⟩) hHeld ?_
 · (intro u _; go_simp)
 try simp only [pu1, pu2, pu3, pu4]
 refine late_st 8 rfl (fun K hK => ?_)
 go_simp
 refine (HL1.out w.drew rfl).mono ?_
 rintro e w' ⟨rfl, rfl⟩
 go_wp2_with fail
 refine hK.out _ _ (AllL.kept hHeld) ?_
 clear hK K
 try simp only [pu1, pu2, pu3, pu4]
 refine late_fr 11 (v := .int .u64 (Y : Int)) rfl (Or.inl ⟨by rfl, ?_⟩) hHeld ?_
 · (intro u _; go_simp)
 try simp only [pu1, pu2, pu3, pu4]
 refine late_fr 12 (v := .int .u64 (XY : Int)) rfl (Or.inl ⟨by rfl, ?_⟩) hHeld ?_
 · (intro u _; go_simp)
 try simp only [pu1, pu2, pu3, pu4]
 refine late_st 16 rfl (fun K hK => ?_)
 go_simp
 refine (HL2.out w.drew rfl).mono ?_
 rintro e w' ⟨rfl, rfl⟩
 go_wp2_with fail
 refine hK.out _ _ (AllL.kept hHeld) ?_
 clear hK K
 try simp only [pu1, pu2, pu3, pu4]
 refine late_fr 19 (v := .int .u64 (Z : Int)) rfl (Or.inl ⟨by rfl, ?_⟩) hHeld ?_
 · (intro u _; go_simp)
 try simp only [pu1, pu2, pu3, pu4]
 refine late_fr 20 (v := .int .u64 (XYZ : Int)) rfl (Or.inl ⟨by rfl, ?_⟩) hHeld ?_
 · (intro u _; go_simp)
 try simp only [pu1, pu2, pu3, pu4]
 refine late_st 21 rfl (fun K hK => ?_)
 go_simp
 refine hK.out _ _ trivial ?_
 clear hK K
 try simp only [pu1, pu2, pu3, pu4]
 refine late_done (by kernel_rfl) ?_ _
 go_wp2
 go_ret
 exact ⟨by rw [HRES.out]; rfl, 1, rfl⟩

structure Done (X Y u0 v0 u1 v1 : Nat) (even : Bool) (z x : Int) : Prop where
 ez : z = if even then (u0 : Int) * X - v0 * Y else (v0 : Int) * Y - u0 * X
 ex : x = if even then (v1 : Int) * Y - u1 * X else (u1 : Int) * X - v1 * Y
 det : (u0 : Int) * v1 - v0 * u1 = if even then 1 else -1
 cx : (v1 : Int) ≤ x
 cz : x + v0 + v1 ≤ z
 small : u0 < 4294967296 ∧ v0 < 4294967296 ∧ u1 < 4294967296 ∧ v1 < 4294967296
 uv : u1 ≤ v1
 back : v0 = 0 ∨ (u0 ≤ v0 ∧ 1 ≤ u1)
 evn : v0 = 0 → even = true
theorem leap_even {a b X Y S u0 v0 u1 v1 : Nat} {z x : Int} (hS : 0 < S) (ha1 : X * S ≤ a) (ha2 : a < X * S + S) (hb1 : Y * S ≤ b) (hb2 : b < Y * S + S)
  (ez : z = (u0 : Int) * X - v0 * Y) (ex : x = (v1 : Int) * Y - u1 * X) (cx : (v1 : Int) ≤ x) (cz : x + v0 + v1 ≤ z) (uv : u1 ≤ v1) :
  (v0 : Int) * b ≤ u0 * a ∧ (u1 : Int) * a ≤ v1 * b ∧ (v1 : Int) * b - u1 * a ≤ u0 * a - v0 * b := by
 obtain ⟨al, rfl⟩ : ∃ al, a = X * S + al := ⟨a - X * S, by omega⟩
 obtain ⟨be, rfl⟩ : ∃ be, b = Y * S + be := ⟨b - Y * S, by omega⟩
 have hal : (al : Int) < S := by omega
 have hbe : (be : Int) < S := by omega
 have hal0 : (0 : Int) ≤ al := by omega
 have hbe0 : (0 : Int) ≤ be := by omega
 have hS' : (0 : Int) ≤ (S : Int) := by omega
 have hu0 : (0 : Int) ≤ u0 := by omega
 have hv0 : (0 : Int) ≤ v0 := by omega
 have hu1 : (0 : Int) ≤ u1 := by omega
 have hv1 : (0 : Int) ≤ v1 := by omega
 have huv : (u1 : Int) ≤ v1 := by omega
 push_cast
 -- the parts
 have e1 : (u0 : Int) * (X * S + al) - v0 * (Y * S + be) = z * S + u0 * al - v0 * be := by rw [ez]; simp only [Int.mul_add, Int.sub_mul, Int.mul_assoc]; omega
 have e2 : (v1 : Int) * (Y * S + be) - u1 * (X * S + al) = x * S + v1 * be - u1 * al := by rw [ex]; simp only [Int.mul_add, Int.sub_mul, Int.mul_assoc]; omega
 have m1 : x * S + (v0 * S + v1 * S) ≤ z * S := by
  have := Int.mul_le_mul_of_nonneg_right cz hS'
  simp only [Int.add_mul] at this; omega
 have m2 : (v1 : Int) * S ≤ x * S := Int.mul_le_mul_of_nonneg_right cx hS'
 have m3 : (v0 : Int) * be ≤ v0 * S := Int.mul_le_mul_of_nonneg_left (by omega) hv0
 have m4 : (v1 : Int) * be ≤ v1 * S := Int.mul_le_mul_of_nonneg_left (by omega) hv1
 have m5 : (u1 : Int) * al ≤ u1 * S := Int.mul_le_mul_of_nonneg_left (by omega) hu1
 have m6 : (u1 : Int) * S ≤ v1 * S := Int.mul_le_mul_of_nonneg_right huv hS'
 have p1 : (0 : Int) ≤ u0 * al := Int.mul_nonneg hu0 hal0
 have p2 : (0 : Int) ≤ v1 * be := Int.mul_nonneg hv1 hbe0
 have p3 : (0 : Int) ≤ u1 * al := Int.mul_nonneg hu1 hal0
 have p4 : (0 : Int) ≤ v1 * S := Int.mul_nonneg hv1 hS'
 refine ⟨by omega, by omega, by omega⟩
theorem leap_odd {a b X Y S u0 v0 u1 v1 : Nat} {z x : Int} (hS : 0 < S) (ha1 : X * S ≤ a) (ha2 : a < X * S + S) (hb1 : Y * S ≤ b) (hb2 : b < Y * S + S)
  (ez : z = (v0 : Int) * Y - u0 * X) (ex : x = (u1 : Int) * X - v1 * Y) (cx : (v1 : Int) ≤ x) (cz : x + v0 + v1 ≤ z) (uv : u1 ≤ v1) (uv0 : u0 ≤ v0) :
  (u0 : Int) * a ≤ v0 * b ∧ (v1 : Int) * b ≤ u1 * a ∧ (u1 : Int) * a - v1 * b ≤ v0 * b - u0 * a := by
 obtain ⟨al, rfl⟩ : ∃ al, a = X * S + al := ⟨a - X * S, by omega⟩
 obtain ⟨be, rfl⟩ : ∃ be, b = Y * S + be := ⟨b - Y * S, by omega⟩
 have hal : (al : Int) < S := by omega
 have hbe : (be : Int) < S := by omega
 have hal0 : (0 : Int) ≤ al := by omega
 have hbe0 : (0 : Int) ≤ be := by omega
 have hS' : (0 : Int) ≤ (S : Int) := by omega
 have hu0 : (0 : Int) ≤ u0 := by omega
 have hv0 : (0 : Int) ≤ v0 := by omega
 have hu1 : (0 : Int) ≤ u1 := by omega
 have hv1 : (0 : Int) ≤ v1 := by omega
 have huv : (u1 : Int) ≤ v1 := by omega
 have huv0 : (u0 : Int) ≤ v0 := by omega
 push_cast
 have e1 : (v0 : Int) * (Y * S + be) - u0 * (X * S + al) = z * S + v0 * be - u0 * al := by rw [ez]; simp only [Int.mul_add, Int.sub_mul, Int.mul_assoc]; omega
 have e2 : (u1 : Int) * (X * S + al) - v1 * (Y * S + be) = x * S + u1 * al - v1 * be := by rw [ex]; simp only [Int.mul_add, Int.sub_mul, Int.mul_assoc]; omega
 have m1 : x * S + (v0 * S + v1 * S) ≤ z * S := by
  have := Int.mul_le_mul_of_nonneg_right cz hS'
  simp only [Int.add_mul] at this; omega
 have m2 : (v1 : Int) * S ≤ x * S := Int.mul_le_mul_of_nonneg_right cx hS'
 have m3 : (u0 : Int) * al ≤ u0 * S := Int.mul_le_mul_of_nonneg_left (by omega) hu0
 have m4 : (v1 : Int) * be ≤ v1 * S := Int.mul_le_mul_of_nonneg_left (by omega) hv1
 have m5 : (u1 : Int) * al ≤ u1 * S := Int.mul_le_mul_of_nonneg_left (by omega) hu1
 have m6 : (u1 : Int) * S ≤ v1 * S := Int.mul_le_mul_of_nonneg_right huv hS'
 have m7 : (u0 : Int) * S ≤ v0 * S := Int.mul_le_mul_of_nonneg_right huv0 hS'
 have p1 : (0 : Int) ≤ v0 * be := Int.mul_nonneg hv0 hbe0
 have p2 : (0 : Int) ≤ v1 * be := Int.mul_nonneg hv1 hbe0
 have p3 : (0 : Int) ≤ u1 * al := Int.mul_nonneg hu1 hal0
 have p4 : (0 : Int) ≤ v1 * S := Int.mul_nonneg hv1 hS'
 have p5 : (0 : Int) ≤ v0 * S := Int.mul_nonneg hv0 hS'
 have p6 : (0 : Int) ≤ u0 * al := Int.mul_nonneg hu0 hal0
 refine ⟨by omega, by omega, by omega⟩
theorem gcd_made {a b c d p q r s : Nat} (h1 : a = p * c + q * d) (h2 : b = r * c + s * d) {p' q' r' s' : Int} (h3 : (c : Int) = p' * a + q' * b) (h4 : (d : Int) = r' * a + s' * b) : Nat.gcd c d = Nat.gcd a b := by
 apply Nat.dvd_antisymm
 ·
  apply Nat.dvd_gcd
  · rw [h1]; exact Nat.dvd_add (Nat.dvd_trans (Nat.gcd_dvd_left c d) (Nat.dvd_mul_left _ _)) (Nat.dvd_trans (Nat.gcd_dvd_right c d) (Nat.dvd_mul_left _ _))
  · rw [h2]; exact Nat.dvd_add (Nat.dvd_trans (Nat.gcd_dvd_left c d) (Nat.dvd_mul_left _ _)) (Nat.dvd_trans (Nat.gcd_dvd_right c d) (Nat.dvd_mul_left _ _))
 ·
  have ga : ((Nat.gcd a b : Nat) : Int) ∣ (a : Int) := Int.natCast_dvd_natCast.2 (Nat.gcd_dvd_left a b)
  have gb : ((Nat.gcd a b : Nat) : Int) ∣ (b : Int) := Int.natCast_dvd_natCast.2 (Nat.gcd_dvd_right a b)
  apply Nat.dvd_gcd
  ·
   apply Int.natCast_dvd_natCast.1
   rw [h3]; exact Int.dvd_add (Int.dvd_mul_of_dvd_right ga) (Int.dvd_mul_of_dvd_right gb)
  ·
   apply Int.natCast_dvd_natCast.1
   rw [h4]; exact Int.dvd_add (Int.dvd_mul_of_dvd_right ga) (Int.dvd_mul_of_dvd_right gb)
structure Fore (X Y x y u0 v0 u1 v1 u2 v2 : Nat) (even : Bool) : Prop where
 sx : x * v2 + y * v1 = X
 sy : x * u2 + y * u1 = Y
 ex : (x : Int) = if even then (v1 : Int) * Y - u1 * X else (u1 : Int) * X - v1 * Y
 ey : (y : Int) = if even then (u2 : Int) * X - v2 * Y else (v2 : Int) * Y - u2 * X
 det : (u1 : Int) * v2 - v1 * u2 = if even then -1 else 1
 le : y ≤ x
 pos : 1 ≤ v2
 uv2 : u2 ≤ v2
 uvs : u1 + u2 ≤ v1 + v2
 us : 1 ≤ u1 + u2
 alt : (v1 = 0 ∧ even = false) ∨ (u1 ≤ v1 ∧ 1 ≤ u2)
 small : u1 < 4294967296 ∧ v1 < 4294967296
 done : v0 = 0 ∨ ∃ z x, Done X Y u0 v0 u1 v1 even z x
theorem Fore.start {X Y : Nat} (h : Y ≤ X) : Fore X Y X Y 0 0 1 0 0 1 false :=
 ⟨by omega, by omega, by simp, by simp, by simp, h, by omega, by omega, by omega, by omega, Or.inl ⟨rfl, rfl⟩, by omega, Or.inl rfl⟩
theorem sq32 {v x X : Nat} (h : v ≤ x) (h2 : x * v ≤ X) (hX : X < 18446744073709551616) : v < 4294967296 := by
 rcases Nat.lt_or_ge v 4294967296 with h1 | h1
 · exact h1
 ·
  have : 4294967296 * 4294967296 ≤ x * v := Nat.mul_le_mul (by omega) h1
  omega
theorem Fore.step {X Y x y u0 v0 u1 v1 u2 v2 q : Nat} {even : Bool} (h : Fore X Y x y u0 v0 u1 v1 u2 v2 even) (hX : X < 18446744073709551616) (c1 : v2 ≤ y) (c2 : y + v1 + v2 ≤ x) (hq : q = x / y) :
  Fore X Y y (x - q * y) u1 v1 u2 v2 (u1 + q * u2) (v1 + q * v2) (!even) ∧ q * y ≤ x ∧ x - q * y < y ∧ v1 + q * v2 ≤ X ∧ u1 + q * u2 ≤ Y ∧ 1 ≤ y := by
 have hy : 1 ≤ y := Nat.le_trans h.pos c1
 have hq1 : 1 ≤ q := by rw [hq]; exact (Nat.le_div_iff_mul_le (by omega)).2 (by omega)
 have hqy : q * y ≤ x := by rw [hq]; exact Nat.div_mul_le_self x y
 have hm : x - q * y < y := by
  have := Nat.div_add_mod x y
  have h2 := Nat.mod_lt x (show 0 < y by omega)
  rw [hq, Nat.mul_comm]; omega
 obtain ⟨r, hr⟩ : ∃ r, x = q * y + r := ⟨x - q * y, by omega⟩
 have hr' : x - q * y = r := by omega
 rw [hr'] at hm ⊢
 have e1 : y * (v1 + q * v2) + r * v2 = X := by
  rw [← h.sx, hr, Nat.mul_add, Nat.add_mul, ← Nat.mul_assoc, Nat.mul_comm y q]; omega
 have e2 : y * (u1 + q * u2) + r * u2 = Y := by
  rw [← h.sy, hr, Nat.mul_add, Nat.add_mul, ← Nat.mul_assoc, Nat.mul_comm y q]; omega
 have hv2' : v1 + q * v2 ≤ X := by
  have := Nat.le_mul_of_pos_left (v1 + q * v2) (show 0 < y by omega); omega
 have hu2' : u1 + q * u2 ≤ Y := by
  have := Nat.le_mul_of_pos_left (u1 + q * u2) (show 0 < y by omega); omega
 have hv32 : v2 < 4294967296 := sq32 (x := x) (by omega) (by have := h.sx; omega) hX
 have q1 : u2 ≤ q * u2 := Nat.le_mul_of_pos_left _ (by omega)
 have q2 : v2 ≤ q * v2 := Nat.le_mul_of_pos_left _ (by omega)
 have q3 : q * u2 + v2 ≤ q * v2 + u2 := by
  obtain ⟨k, rfl⟩ : ∃ k, q = k + 1 := ⟨q - 1, by omega⟩
  have := Nat.mul_le_mul_left k h.uv2
  rw [Nat.add_mul, Nat.add_mul]; omega
 have hu := h.uvs
 have hus := h.us
 have huv := h.uv2
 have hpos := h.pos
 have hxr : (r : Int) = x - q * y := by omega
 refine ⟨⟨e1, e2, ?_, ?_, ?_, by omega, by omega, by omega, by omega, by omega, Or.inr ⟨huv, by omega⟩, by omega, ?_⟩, hqy, hm, hv2', hu2', hy⟩
 ·
  have := h.ey
  cases even <;> simpa using this
 ·
  have h1 := h.ex
  have h2 := h.ey
  rw [hxr]
  cases even
  ·
   simp only [Bool.not_false, if_true, Bool.false_eq_true, if_false] at h1 h2 ⊢
   rw [h1, h2]
   push_cast
   simp only [Int.mul_sub, Int.add_mul, Int.mul_assoc]
   omega
  ·
   simp only [Bool.not_true, if_true, Bool.false_eq_true, if_false] at h1 h2 ⊢
   rw [h1, h2]
   push_cast
   simp only [Int.mul_sub, Int.add_mul, Int.mul_assoc]
   omega
 ·
  have h1 := h.det
  have e3 : (u2 : Int) * ((v1 + q * v2 : Nat) : Int) - v2 * ((u1 + q * u2 : Nat) : Int) = -((u1 : Int) * v2 - v1 * u2) := by
   push_cast
   simp only [Int.mul_add]
   rw [Int.mul_comm (u2 : Int) v1, Int.mul_comm (v2 : Int) u1, Int.mul_left_comm (u2 : Int) q v2, Int.mul_left_comm (v2 : Int) q u2, Int.mul_comm (v2 : Int) u2]
   omega
  rw [e3, h1]
  cases even <;> rfl
 ·
  right
  refine ⟨x, y, ?_, ?_, ?_, by omega, by omega, ⟨h.small.1, h.small.2, by omega, hv32⟩, huv, ?_, ?_⟩
  ·
   have := h.ex
   cases even <;> simpa using this
  ·
   have := h.ey
   cases even <;> simpa using this
  ·
   have := h.det
   cases even <;> simpa using this
  ·
   rcases h.alt with ⟨h1, _⟩ | ⟨h1, h2⟩
   · exact Or.inl h1
   · exact Or.inr ⟨h1, h2⟩
  ·
   intro h0
   rcases h.alt with ⟨_, h2⟩ | ⟨h1, h2⟩
   · rw [h2]; rfl
   ·
    exfalso
    have h3 := h.det
    have h4 : u1 = 0 := by omega
    rw [h0, h4] at h3
    cases even <;> simp at h3
theorem leap_made {a b X Y S u0 v0 u1 v1 : Nat} {even : Bool} {z x : Int} (hS : 0 < S) (ha1 : X * S ≤ a) (ha2 : a < X * S + S) (hb1 : Y * S ≤ b) (hb2 : b < Y * S + S) (hb0 : 0 < b)
  (hv0 : v0 ≠ 0) (h : Done X Y u0 v0 u1 v1 even z x) :
  ∃ c d : Nat, (if even = true then b * v0 + c = a * u0 ∧ a * u1 + d = b * v1 else a * u0 + c = b * v0 ∧ b * v1 + d = a * u1) ∧ d ≤ c ∧ c ≤ b ∧ Nat.gcd c d = Nat.gcd a b ∧ c + d < a + b := by
 obtain ⟨huv0, hu1⟩ : u0 ≤ v0 ∧ 1 ≤ u1 := by
  rcases h.back with h1 | h1
  · exact absurd h1 hv0
  · exact h1
 have huv := h.uv
 have key : ∃ c d : Nat, (if even = true then b * v0 + c = a * u0 ∧ a * u1 + d = b * v1 else a * u0 + c = b * v0 ∧ b * v1 + d = a * u1) ∧ d ≤ c ∧ a = v1 * c + v0 * d ∧ b = u1 * c + u0 * d ∧ ∃ p q r s : Int, (c : Int) = p * a + q * b ∧ (d : Int) = r * a + s * b := by
  cases he : even
  ·
   have hez := h.ez; have hex := h.ex; have hdet := h.det
   rw [he] at hez hex hdet
   simp only [Bool.false_eq_true, if_false] at hez hex hdet ⊢
   obtain ⟨l1, l2, l3⟩ := leap_odd hS ha1 ha2 hb1 hb2 hez hex h.cx h.cz huv huv0
   obtain ⟨c, hc⟩ := Int.eq_ofNat_of_zero_le (show 0 ≤ (v0 : Int) * b - u0 * a by omega)
   obtain ⟨d, hd⟩ := Int.eq_ofNat_of_zero_le (show 0 ≤ (u1 : Int) * a - v1 * b by omega)
   have ia : (v1 : Int) * c + v0 * d = (a : Int) := by
    rw [← hc, ← hd]
    simp only [Int.mul_sub]
    have : (v1 : Int) * (v0 * b) - v1 * (u0 * a) + (v0 * (u1 * a) - v0 * (v1 * b)) = -((u0 : Int) * v1 - v0 * u1) * a := by
     simp only [Int.neg_mul, Int.sub_mul, Int.mul_assoc]
     rw [Int.mul_left_comm (v1 : Int) v0 b, Int.mul_left_comm (v1 : Int) u0 a]; omega
    rw [this, hdet]; omega
   have ib : (u1 : Int) * c + u0 * d = (b : Int) := by
    rw [← hc, ← hd]
    simp only [Int.mul_sub]
    have : (u1 : Int) * (v0 * b) - u1 * (u0 * a) + (u0 * (u1 * a) - u0 * (v1 * b)) = -((u0 : Int) * v1 - v0 * u1) * b := by
     simp only [Int.neg_mul, Int.sub_mul, Int.mul_assoc]
     rw [Int.mul_left_comm (u1 : Int) v0 b, Int.mul_left_comm (u1 : Int) u0 a]; omega
    rw [this, hdet]; omega
   refine ⟨c, d, ⟨?_, ?_⟩, by omega, ?_, ?_, -u0, v0, u1, -v1, ?_, ?_⟩
   ·
    have : ((a * u0 + c : Nat) : Int) = ((b * v0 : Nat) : Int) := by push_cast; rw [Int.mul_comm (a : Int), Int.mul_comm (b : Int), ← hc]; omega
    exact Int.ofNat.inj this
   ·
    have : ((b * v1 + d : Nat) : Int) = ((a * u1 : Nat) : Int) := by push_cast; rw [Int.mul_comm (a : Int), Int.mul_comm (b : Int), ← hd]; omega
    exact Int.ofNat.inj this
   ·
    have : ((a : Nat) : Int) = ((v1 * c + v0 * d : Nat) : Int) := by push_cast; exact ia.symm
    exact Int.ofNat.inj this
   ·
    have : ((b : Nat) : Int) = ((u1 * c + u0 * d : Nat) : Int) := by push_cast; exact ib.symm
    exact Int.ofNat.inj this
   · rw [← hc, Int.neg_mul]; omega
   · rw [← hd, Int.neg_mul]; omega
  ·
   have hez := h.ez; have hex := h.ex; have hdet := h.det
   rw [he] at hez hex hdet
   simp only [if_true] at hez hex hdet ⊢
   obtain ⟨l1, l2, l3⟩ := leap_even hS ha1 ha2 hb1 hb2 hez hex h.cx h.cz huv
   obtain ⟨c, hc⟩ := Int.eq_ofNat_of_zero_le (show 0 ≤ (u0 : Int) * a - v0 * b by omega)
   obtain ⟨d, hd⟩ := Int.eq_ofNat_of_zero_le (show 0 ≤ (v1 : Int) * b - u1 * a by omega)
   have ia : (v1 : Int) * c + v0 * d = (a : Int) := by
    rw [← hc, ← hd]
    simp only [Int.mul_sub]
    have : (v1 : Int) * (u0 * a) - v1 * (v0 * b) + (v0 * (v1 * b) - v0 * (u1 * a)) = ((u0 : Int) * v1 - v0 * u1) * a := by
     simp only [Int.sub_mul, Int.mul_assoc]
     rw [Int.mul_left_comm (v1 : Int) v0 b, Int.mul_left_comm (v1 : Int) u0 a]; omega
    rw [this, hdet]; omega
   have ib : (u1 : Int) * c + u0 * d = (b : Int) := by
    rw [← hc, ← hd]
    simp only [Int.mul_sub]
    have : (u1 : Int) * (u0 * a) - u1 * (v0 * b) + (u0 * (v1 * b) - u0 * (u1 * a)) = ((u0 : Int) * v1 - v0 * u1) * b := by
     simp only [Int.sub_mul, Int.mul_assoc]
     rw [Int.mul_left_comm (u1 : Int) v0 b, Int.mul_left_comm (u1 : Int) u0 a]; omega
    rw [this, hdet]; omega
   refine ⟨c, d, ⟨?_, ?_⟩, by omega, ?_, ?_, u0, -v0, -u1, v1, ?_, ?_⟩
   ·
    have : ((b * v0 + c : Nat) : Int) = ((a * u0 : Nat) : Int) := by push_cast; rw [Int.mul_comm (a : Int), Int.mul_comm (b : Int), ← hc]; omega
    exact Int.ofNat.inj this
   ·
    have : ((a * u1 + d : Nat) : Int) = ((b * v1 : Nat) : Int) := by push_cast; rw [Int.mul_comm (a : Int), Int.mul_comm (b : Int), ← hd]; omega
    exact Int.ofNat.inj this
   ·
    have : ((a : Nat) : Int) = ((v1 * c + v0 * d : Nat) : Int) := by push_cast; exact ia.symm
    exact Int.ofNat.inj this
   ·
    have : ((b : Nat) : Int) = ((u1 * c + u0 * d : Nat) : Int) := by push_cast; exact ib.symm
    exact Int.ofNat.inj this
   · rw [← hc, Int.neg_mul]; omega
   · rw [← hd, Int.neg_mul]; omega
 obtain ⟨c, d, h1, h2, h3, h4, p, q, r, s, h5, h6⟩ := key
 refine ⟨c, d, h1, h2, ?_, gcd_made h3 h4 h5 h6, ?_⟩
 · have := Nat.le_mul_of_pos_left c (show 0 < u1 by omega); omega
 ·
  have k1 := Nat.le_mul_of_pos_left c (show 0 < v1 by omega)
  have k2 := Nat.le_mul_of_pos_left d (show 0 < v0 by omega)
  omega
open Go.RowKit

def Steps (w : World) (g u0 v0 u1 v1 : Nat) (ev : Bool) : Prop :=
 w.heap[g]? = some (.cells #[.int .u64 (u0 : Int), .int .u64 (v0 : Int), .int .u64 (u1 : Int), .int .u64 (v1 : Int), .bool ev] 132 (0, 0))
theorem Steps.cells {w : World} {g u0 v0 u1 v1 : Nat} {ev : Bool} (h : Steps w g u0 v0 u1 v1 ev) :
  w.cell? ⟨g, 0, none⟩ = some (.int .u64 (u0 : Int)) ∧ w.cell? ⟨g, 1, none⟩ = some (.int .u64 (v0 : Int)) ∧ w.cell? ⟨g, 2, none⟩ = some (.int .u64 (u1 : Int)) ∧ w.cell? ⟨g, 3, none⟩ = some (.int .u64 (v1 : Int)) ∧ w.cell? ⟨g, 4, none⟩ = some (.bool ev) := by
 refine ⟨?_, ?_, ?_, ?_, ?_⟩ <;> (rw [cell_of_row w g _ _ _ _ h]; rfl)
theorem Steps.thaw {w : World} {g u0 v0 u1 v1 : Nat} {ev : Bool} (h : Steps w g u0 v0 u1 v1 ev) (k : Nat) : w.frozen? ⟨g, k, none⟩ = false := frozen_of_row w g k _ _ h
theorem Steps.other {w : World} {g u0 v0 u1 v1 : Nat} {ev : Bool} (h : Steps w g u0 v0 u1 v1 ev) {g' : Nat} (hne : g ≠ g') (k : Nat) (v : Value) : Steps (w.setCell ⟨g', k, none⟩ v) g u0 v0 u1 v1 ev := by
 unfold Steps
 rw [heap_setCell_other]
 · exact h
 · exact hne
theorem Steps.step {w : World} {g u0 v0 u1 v1 : Nat} {ev : Bool} (h : Steps w g u0 v0 u1 v1 ev) (a b c d : Nat) (f : Bool) :
  Steps (((((w.setCell ⟨g, 0, none⟩ (.int .u64 (a : Int))).setCell ⟨g, 2, none⟩ (.int .u64 (c : Int))).setCell ⟨g, 1, none⟩ (.int .u64 (b : Int))).setCell ⟨g, 3, none⟩ (.int .u64 (d : Int))).setCell ⟨g, 4, none⟩ (.bool f)) g a b c d f := by
 unfold Steps
 have h1 := heap_setCell_same w g 0 _ _ (.int .u64 (a : Int)) h
 have h2 := heap_setCell_same _ g 2 _ _ (.int .u64 (c : Int)) h1
 have h3 := heap_setCell_same _ g 1 _ _ (.int .u64 (b : Int)) h2
 have h4 := heap_setCell_same _ g 3 _ _ (.int .u64 (d : Int)) h3
 have h5 := heap_setCell_same _ g 4 _ _ (.bool f) h4
 rw [h5]
 rfl
theorem Steps.write {w : World} {g u0 v0 u1 v1 : Nat} {ev : Bool} (h : Steps w g u0 v0 u1 v1 ev) (a b c d : Nat) (f : Bool) :
  Steps (((((w.setCell ⟨g, 0, none⟩ (.int .u64 (a : Int))).setCell ⟨g, 1, none⟩ (.int .u64 (b : Int))).setCell ⟨g, 2, none⟩ (.int .u64 (c : Int))).setCell ⟨g, 3, none⟩ (.int .u64 (d : Int))).setCell ⟨g, 4, none⟩ (.bool f)) g a b c d f := by
 unfold Steps
 have h1 := heap_setCell_same w g 0 _ _ (.int .u64 (a : Int)) h
 have h2 := heap_setCell_same _ g 1 _ _ (.int .u64 (b : Int)) h1
 have h3 := heap_setCell_same _ g 2 _ _ (.int .u64 (c : Int)) h2
 have h4 := heap_setCell_same _ g 3 _ _ (.int .u64 (d : Int)) h3
 have h5 := heap_setCell_same _ g 4 _ _ (.bool f) h4
 rw [h5]
 rfl
def ForeEnd (X Y : Nat) (w : World) (e : Ending) (w' : World) : Prop :=
 ∃ (u0 v0 u1 v1 : Nat) (ev : Bool), e = .returned (.agg #[.int .u64 (u0 : Int), .int .u64 (v0 : Int), .int .u64 (u1 : Int), .int .u64 (v1 : Int), .bool ev]) ∧ (v0 = 0 ∨ ∃ z x, Done X Y u0 v0 u1 v1 ev z x) ∧ Below w.heap.size w w'
theorem foresee_any (X Y : Nat) (w : World) (hX : X < 18446744073709551616) (hYX : Y ≤ X) :
  Calls Tryz.prog 136 #[.int .u64 (X : Int), .int .u64 (Y : Int)] w fun e w' => ForeEnd X Y w e w' := by
 go_enter Tryz.func136, Tryz.ntmps136
 go_wp2
 have hS1 : Steps ((w.alloc (.cells #[.int .u64 0, .int .u64 0, .int .u64 0, .int .u64 0, .bool false] 132)).alloc (.cells #[.int .u64 0, .int .u64 0, .int .u64 1, .int .u64 0, .bool false] 132)) (w.heap.size + 1) 0 0 1 0 false := heap_alloc2_new w _ _
 have hS0 : Steps ((w.alloc (.cells #[.int .u64 0, .int .u64 0, .int .u64 0, .int .u64 0, .bool false] 132)).alloc (.cells #[.int .u64 0, .int .u64 0, .int .u64 1, .int .u64 0, .bool false] 132)) w.heap.size 0 0 0 0 false := heap_alloc2_old w _ _
 have hbl : Below w.heap.size w ((w.alloc (.cells #[.int .u64 0, .int .u64 0, .int .u64 0, .int .u64 0, .bool false] 132)).alloc (.cells #[.int .u64 0, .int .u64 0, .int .u64 1, .int .u64 0, .bool false] 132)) := ((Below.refl w.heap.size w).alloc (Nat.le_refl _) _).alloc (by simp) _
 generalize (w.alloc (.cells #[.int .u64 0, .int .u64 0, .int .u64 0, .int .u64 0, .bool false] 132)).alloc (.cells #[.int .u64 0, .int .u64 0, .int .u64 1, .int .u64 0, .bool false] 132) = w2 at *
 obtain ⟨g, hg⟩ : ∃ g, g = w.heap.size := ⟨_, rfl⟩
 obtain ⟨gs, hgs⟩ : ∃ gs, gs = w.heap.size + 1 := ⟨_, rfl⟩
 rw [← hgs] at hS1
 rw [← hg] at hS0
 rw [← hg, ← show gs = g + 1 by omega]
 have hne : g ≠ gs := by omega
 have HG : Hid (w.heap.size ≤ g) := by show _ ≤ _; omega
 have HGS : Hid (w.heap.size ≤ gs) := by show _ ≤ _; omega
 have HST : Hid (Steps w2 gs 0 0 1 0 false ∧ Steps w2 g 0 0 0 0 false ∧ Below w.heap.size w w2) := ⟨hS1, hS0, hbl⟩
 clear hS1 hS0 hbl hg hgs
 go_loopw [0, 1, 6, 7] (fun xv yv uv vv wr => ∃ (x y u0 v0 u1 v1 u2 v2 : Nat) (ev : Bool), xv = .int .u64 x ∧ yv = .int .u64 y ∧ uv = .int .u64 u2 ∧ vv = .int .u64 v2 ∧ Fore X Y x y u0 v0 u1 v1 u2 v2 ev ∧ Steps wr gs u0 v0 u1 v1 ev ∧ Steps wr g 0 0 0 0 false ∧ Below w.heap.size w wr) (fun _ yv _ _ _ => (intOf yv).toNat)
 case atStart => exact ⟨X, Y, 0, 0, 1, 0, 0, 1, false, rfl, rfl, rfl, rfl, Fore.start hYX, HST.out.1, HST.out.2.1, HST.out.2.2⟩
 case round =>
  clear HST
  obtain ⟨x, y, u0, v0, u1, v1, u2, v2, ev, rfl, rfl, rfl, rfl, hF, hS, hS0, hbel⟩ := hrel
  have HF : Hid (Fore X Y x y u0 v0 u1 v1 u2 v2 ev) := hF
  have hyx := hF.le
  have hv2 := hF.pos
  have hxX : x ≤ X := by
   have h1 := hF.sx
   have h2 := Nat.le_mul_of_pos_right x (show 0 < v2 by omega)
   omega
  have hsm := hF.small
  obtain ⟨hu1s, hv1s⟩ := hsm
  clear hF
  obtain ⟨c0, c1, c2, c3, c4⟩ := hS.cells
  by_cases h1 : v2 ≤ y
  ·
   have h1' : (v2 : Int) ≤ (y : Int) := by omega
   have hv2X : v2 ≤ X := by omega
   have hvs : v1 + v2 ≤ X := by
    have k1 := HF.out.sx
    have k2 := Nat.le_mul_of_pos_left v1 (show 0 < y by omega)
    have k3 := Nat.le_mul_of_pos_left v2 (show 0 < x by omega)
    omega
   by_cases h2 : y + v1 + v2 ≤ x
   ·
    have h2' : (v1 : Int) + (v2 : Int) ≤ (x : Int) - (y : Int) := by omega
    obtain ⟨q, hq⟩ : ∃ q, q = x / y := ⟨_, rfl⟩
    obtain ⟨hF2, hqy, hmy, hv2', hu2', hy1⟩ := HF.out.step hX h1 h2 hq
    have eq : (x : Int) / (y : Int) = (q : Int) := by rw [hq]; exact (Int.natCast_ediv x y).symm
    have hyz : ((y : Int) == 0) = false := by simp; omega
    obtain ⟨p, hp⟩ : ∃ p, p = q * y := ⟨_, rfl⟩
    have ep : (q : Int) * (y : Int) = (p : Int) := by rw [hp]; exact (Int.natCast_mul q y).symm
    obtain ⟨a, ha⟩ : ∃ a, a = q * u2 := ⟨_, rfl⟩
    have ea : (q : Int) * (u2 : Int) = (a : Int) := by rw [ha]; exact (Int.natCast_mul q u2).symm
    obtain ⟨b, hb⟩ : ∃ b, b = q * v2 := ⟨_, rfl⟩
    have eb : (q : Int) * (v2 : Int) = (b : Int) := by rw [hb]; exact (Int.natCast_mul q v2).symm
    rw [← hp] at hF2 hqy hmy
    rw [← ha] at hF2 hu2'
    rw [← hb] at hF2 hv2'
    have HF2 : Hid (Fore X Y y (x - p) u1 v1 u2 v2 (u1 + a) (v1 + b) (!ev)) := hF2
    have hst := hS.step u1 v1 u2 v2 (!ev)
    have hst0 := ((((hS0.other hne 0 (.int .u64 (u1 : Int))).other hne 2 (.int .u64 (u2 : Int))).other hne 1 (.int .u64 (v1 : Int))).other hne 3 (.int .u64 (v2 : Int))).other hne 4 (.bool (!ev))
    have hbel2 := ((((hbel.setCell (p := ⟨gs, 0, none⟩) HGS.out (.int .u64 (u1 : Int))).setCell (p := ⟨gs, 2, none⟩) HGS.out (.int .u64 (u2 : Int))).setCell (p := ⟨gs, 1, none⟩) HGS.out (.int .u64 (v1 : Int))).setCell (p := ⟨gs, 3, none⟩) HGS.out (.int .u64 (v2 : Int))).setCell (p := ⟨gs, 4, none⟩) HGS.out (.bool (!ev))
    have f0 := hS.thaw 0
    have f1 := hS.thaw 1
    have f2 := hS.thaw 2
    have f3 := hS.thaw 3
    have f4 := hS.thaw 4
    have hqX : q ≤ X := by rw [hq]; exact Nat.le_trans (Nat.div_le_self _ _) hxX
    clear hF2 hS hS0 hbel hq hp ha hb
    go_wp2
    go_roundw
    case rel => exact ⟨y, x - p, u1, v1, u2, v2, u1 + a, v1 + b, !ev, rfl, congrArg _ (Int.ofNat_sub hqy).symm, by go_num, by go_num, HF2.out, hst, hst0, hbel2⟩
    case measure =>
     show ((x : Int) - (p : Int)).toNat < ((y : Nat) : Int).toNat
     rw [← Int.ofNat_sub hqy, Int.toNat_natCast, Int.toNat_natCast]
     exact hmy
   ·
    have h2' : ¬ (v1 : Int) + (v2 : Int) ≤ (x : Int) - (y : Int) := by omega
    have HE : Hid (v0 = 0 ∨ ∃ z x, Done X Y u0 v0 u1 v1 ev z x) := HF.out.done
    obtain ⟨d0, d1, d2, d3, d4⟩ := hS0.cells
    have f0 := hS0.thaw 0
    have f1 := hS0.thaw 1
    have f2 := hS0.thaw 2
    have f3 := hS0.thaw 3
    have f4 := hS0.thaw 4
    have hbel2 := ((((hbel.setCell (p := ⟨g, 0, none⟩) HG.out (.int .u64 (u0 : Int))).setCell (p := ⟨g, 1, none⟩) HG.out (.int .u64 (v0 : Int))).setCell (p := ⟨g, 2, none⟩) HG.out (.int .u64 (u1 : Int))).setCell (p := ⟨g, 3, none⟩) HG.out (.int .u64 (v1 : Int))).setCell (p := ⟨g, 4, none⟩) HG.out (.bool ev)
    have HW : Hid (Steps (((((wr.setCell ⟨g, 0, none⟩ (.int .u64 (u0 : Int))).setCell ⟨g, 1, none⟩ (.int .u64 (v0 : Int))).setCell ⟨g, 2, none⟩ (.int .u64 (u1 : Int))).setCell ⟨g, 3, none⟩ (.int .u64 (v1 : Int))).setCell ⟨g, 4, none⟩ (.bool ev)) g u0 v0 u1 v1 ev) := hS0.write u0 v0 u1 v1 ev
    clear hS hS0 hbel
    go_wp2
    (try simp only [Exit.inBlock, Exit.then])
    refine bodyPost_ret (v := .agg #[.int .u64 (u0 : Int), .int .u64 (v0 : Int), .int .u64 (u1 : Int), .int .u64 (v1 : Int), .bool ev]) ?_ rfl ⟨u0, v0, u1, v1, ev, rfl, HE.out, hbel2⟩
    exact results_cell_row rfl _ _ g 132 _ (0, 0) _ rfl HW.out Tryz.underlying132 rfl (by kernel_rfl)
  ·
   have h1' : ¬ (v2 : Int) ≤ (y : Int) := by omega
   have HE : Hid (v0 = 0 ∨ ∃ z x, Done X Y u0 v0 u1 v1 ev z x) := HF.out.done
   obtain ⟨d0, d1, d2, d3, d4⟩ := hS0.cells
   have f0 := hS0.thaw 0
   have f1 := hS0.thaw 1
   have f2 := hS0.thaw 2
   have f3 := hS0.thaw 3
   have f4 := hS0.thaw 4
   have hbel2 := ((((hbel.setCell (p := ⟨g, 0, none⟩) HG.out (.int .u64 (u0 : Int))).setCell (p := ⟨g, 1, none⟩) HG.out (.int .u64 (v0 : Int))).setCell (p := ⟨g, 2, none⟩) HG.out (.int .u64 (u1 : Int))).setCell (p := ⟨g, 3, none⟩) HG.out (.int .u64 (v1 : Int))).setCell (p := ⟨g, 4, none⟩) HG.out (.bool ev)
   have HW : Hid (Steps (((((wr.setCell ⟨g, 0, none⟩ (.int .u64 (u0 : Int))).setCell ⟨g, 1, none⟩ (.int .u64 (v0 : Int))).setCell ⟨g, 2, none⟩ (.int .u64 (u1 : Int))).setCell ⟨g, 3, none⟩ (.int .u64 (v1 : Int))).setCell ⟨g, 4, none⟩ (.bool ev)) g u0 v0 u1 v1 ev) := hS0.write u0 v0 u1 v1 ev
   clear hS hS0 hbel
   go_wp2
   (try simp only [Exit.inBlock, Exit.then])
   refine bodyPost_ret (v := .agg #[.int .u64 (u0 : Int), .int .u64 (v0 : Int), .int .u64 (u1 : Int), .int .u64 (v1 : Int), .bool ev]) ?_ rfl ⟨u0, v0, u1, v1, ev, rfl, HE.out, hbel2⟩
   exact results_cell_row rfl _ _ g 132 _ (0, 0) _ rfl HW.out Tryz.underlying132 rfl (by kernel_rfl)

theorem bl_le_iff {v m : Nat} : bl v ≤ m ↔ v < 2 ^ m := by
 by_cases h : v = 0
 · subst h; simp [bl_zero, Nat.two_pow_pos]
 ·
  obtain ⟨k, e, h1, h2⟩ := bl_bounds h
  rw [e]
  constructor
  ·
   intro hm
   exact Nat.lt_of_lt_of_le h2 (Nat.pow_le_pow_right (by decide) hm)
  ·
   intro hm
   have := (Nat.pow_lt_pow_iff_right (by decide : 1 < 2)).1 (Nat.lt_of_le_of_lt h1 hm)
   omega
theorem bl_lt' (v : Nat) : v < 2 ^ bl v := bl_le_iff.1 (Nat.le_refl _)
theorem bl_gt_iff {v m : Nat} : m < bl v ↔ 2 ^ m ≤ v := by
 constructor
 ·
  intro h
  rcases Nat.lt_or_ge v (2 ^ m) with h1 | h1
  · have := bl_le_iff.2 h1; omega
  · exact h1
 ·
  intro h
  rcases Nat.lt_or_ge m (bl v) with h1 | h1
  · exact h1
  · have := bl_le_iff.1 h1; omega
theorem bl_len {xs : List Nat} (h : limbs xs) : bl (val xs) ≤ 32 * xs.length := by
 rw [bl_le_iff, ← pow_limb]
 exact val_lt h
theorem bl_lim_len {p : Nat} : bl p ≤ 32 * (lim p).length := by
 have := bl_len (limbs_lim p)
 rwa [val_lim] at this
end Go.Proofs.YtfnafgjnimfmjaaGreatDoor
