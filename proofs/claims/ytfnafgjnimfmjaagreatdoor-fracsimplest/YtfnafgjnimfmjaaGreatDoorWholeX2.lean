/-
  Proved here: what Floor of package whole answers. Proved here: what a step of Bezout in package whole answers. Proved here: what onSideOf of package whole answers; plain facts on Euclid's rows. Proved here: what Bezout of package whole answers.
-/
import Derived.Test.YtfnafgjnimfmjaaGreatDoorWholeX1
import Derived.Test.YtfnafgjnimfmjaaGreatDoorLate
import Derived.Test.YtfnafgjnimfmjaaGreatDoorValAtAll
namespace Go.Proofs.YtfnafgjnimfmjaaGreatDoor
open Go.RowKit
attribute [local go_sem ↓] Go.wp_at_zero Go.wp_at_succ

theorem INum.sz {w : World} {v : Value} {z : Int} (h : INum w v z) : Sz z 1000000 := by
  obtain ⟨neg, ao, n, cap, xs, rfl, h1, h2, rfl⟩ := h
  exact Sz.of_num h1 h2
theorem rz_le (x y : Int) : (rz x y).natAbs ≤ x.natAbs := by
  unfold rz
  split
  · simp
  · rw [Int.natAbs_tmod]; exact Nat.mod_le _ _
theorem tdiv_le (x y : Int) : (x.tdiv y).natAbs ≤ x.natAbs := by rw [Int.natAbs_tdiv]; exact Nat.div_le_self _ _
theorem INum.mk' {B : Nat} {w : World} {m : Value} {z : Int} (h : Own B 37 w m (lim z.natAbs)) (hs : Sz z 1000000) : INum w (.agg #[.bool (decide (z < 0)), m]) z := IOwn.num ⟨m, rfl, h⟩ hs (Nat.le_refl _)
/-- Whether rounding towards 0 went up. -/
def fup (x y : Int) : Prop := cmpZ (rz x y) 0 * cmpZ y 0 < 0
instance (x y : Int) : Decidable (fup x y) := inferInstanceAs (Decidable (_ < _))
def fq (x y : Int) : Int := if fup x y then x.tdiv y - 1 else x.tdiv y
def fr (x y : Int) : Int := if fup x y then rz x y + y else rz x y
theorem cmpZ_bd (x y : Int) : cmpZ x y = -1 ∨ cmpZ x y = 0 ∨ cmpZ x y = 1 := by
  unfold cmpZ
  split
  · exact Or.inl rfl
  · split
    · exact Or.inr (Or.inl rfl)
    · exact Or.inr (Or.inr rfl)
theorem icell_keep4 {w : World} {g v v2 : Nat} {n : Bool} {m a0 a1 b0 b1 : Value} (h : ICell w g n m) (h1 : g ≠ v) (h2 : g ≠ v2) : ICell ((((w.setCell ⟨v, 0, none⟩ a0).setCell ⟨v, 1, none⟩ a1).setCell ⟨v2, 0, none⟩ b0).setCell ⟨v2, 1, none⟩ b1) g n m :=
  (((h.other h1 0 _).other h1 1 _).other h2 0 _).other h2 1 _
theorem cmpZ_mul (x y : Int) : -1 ≤ cmpZ x 0 * cmpZ y 0 ∧ cmpZ x 0 * cmpZ y 0 ≤ 1 := by
  rcases cmpZ_bd x 0 with h | h | h <;> rcases cmpZ_bd y 0 with h2 | h2 | h2 <;> rw [h, h2] <;> decide

set_option maxRecDepth 100000 in
set_option maxHeartbeats 6400000 in
theorem c_floor {a b : Value} {x y : Int} {w : World} (ha : INum w a x) (hb' : INum w b y) : Calls Tryz.prog 72 #[a, b] w fun e w' => QEnd w (fq x y) (fr x y) (errZ y.natAbs) e w' := by
  obtain ⟨na, ao, al, ac, xa, rfl, ua, la, za⟩ := ha
  have ha : INum w (.agg #[.bool na, .slice ao al ac]) x := ⟨_, _, _, _, _, rfl, ua, la, za⟩
  clear ua la za
  obtain ⟨nb, bo, bl, bc, xb, rfl, ub, lb, zb⟩ := hb'
  have hb' : INum w (.agg #[.bool nb, .slice bo bl bc]) y := ⟨_, _, _, _, _, rfl, ub, lb, zb⟩
  clear ub lb zb
  obtain ⟨W1, hW1⟩ : ∃ W1, W1 = (((w.alloc (.cells #[.bool na, .slice ao al ac] 25)).alloc (.cells #[.bool nb, .slice bo bl bc] 25)).alloc (.cells #[.bool false, .slice none 0 0] 25)).alloc (.cells #[.bool false, .slice none 0 0] 25) := ⟨_, rfl⟩
  have q0 : ICell W1 (w.heap.size) na (.slice ao al ac) := by rw [hW1]; exact (icell_step (icell_step (icell_step (icell_new _ (by simp)))))
  have q1 : ICell W1 (w.heap.size + 1) nb (.slice bo bl bc) := by rw [hW1]; exact (icell_step (icell_step (icell_new _ (by simp))))
  have q2 : ICell W1 (w.heap.size + 1 + 1) false (.slice none 0 0) := by rw [hW1]; exact (icell_step (icell_new _ (by simp)))
  have q3 : ICell W1 (w.heap.size + 1 + 1 + 1) false (.slice none 0 0) := by rw [hW1]; exact (icell_new _ (by simp))
  have hb : Below w.heap.size w W1 := by rw [hW1]; exact bstep (bstep (bstep (belowA w _) (belowA _ _)) (belowA _ _)) (belowA _ _)
  have hsz : w.heap.size + 1 + 1 + 1 < W1.heap.size := by rw [hW1]; simp
  replace ha := ha.below hb
  replace hb' := hb'.below hb
  have HW1 : Hid (W1 = (((w.alloc (.cells #[.bool na, .slice ao al ac] 25)).alloc (.cells #[.bool nb, .slice bo bl bc] 25)).alloc (.cells #[.bool false, .slice none 0 0] 25)).alloc (.cells #[.bool false, .slice none 0 0] 25)) := hW1
  clear hW1
  obtain ⟨FQ, hFQ⟩ : ∃ Q, Q = fq x y := ⟨_, rfl⟩
  obtain ⟨FR, hFR⟩ : ∃ R, R = fr x y := ⟨_, rfl⟩
  have HFQ : Hid (FQ = fq x y) := hFQ
  have HFR : Hid (FR = fr x y) := hFR
  rw [← hFQ, ← hFR]
  clear hFQ hFR
  obtain ⟨E, hE⟩ : ∃ E, E = errZ y.natAbs := ⟨_, rfl⟩
  have HEE : Hid (E = errZ y.natAbs) := hE
  rw [← hE]
  clear hE
  go_enter Tryz.func72, Tryz.ntmps72
  go_wp2_with fail
  rw [← HW1.out]
  clear HW1
  obtain ⟨g, hg⟩ : ∃ g, g = w.heap.size := ⟨_, rfl⟩
  rw [← hg] at q0 q1 q2 q3 hsz ⊢
  have HG : Hid (g = w.heap.size) := hg
  clear hg
  refine (c_quo ha hb').mono ?_
  rintro e w2 ⟨mq, mr, rfl, hq, hr, hqr, hb2⟩
  obtain ⟨qo, ql, qc, rfl⟩ := hq.sl
  obtain ⟨ro, rl, rc, rfl⟩ := hr.sl
  rw [← HEE.out]
  obtain ⟨Q, hQ⟩ : ∃ Q, Q = x.tdiv y := ⟨_, rfl⟩
  obtain ⟨R, hR⟩ : ∃ R, R = rz x y := ⟨_, rfl⟩
  have HQ : Hid (Q = x.tdiv y) := hQ
  have HR : Hid (R = rz x y) := hR
  have sQ : Sz Q 1000000 := by rw [hQ]; exact ha.sz.le (tdiv_le x y)
  have sR : Sz R 1000000 := by rw [hR]; exact ha.sz.le (rz_le x y)
  rw [← hQ, ← hR]
  rw [← hQ] at hq
  rw [← hR] at hr
  clear hQ hR
  have iQ := INum.mk' hq sQ
  have iR := INum.mk' hr sR
  obtain ⟨bq, hbq⟩ : ∃ b, b = decide (Q < 0) := ⟨_, rfl⟩
  obtain ⟨br, hbr⟩ : ∃ b, b = decide (R < 0) := ⟨_, rfl⟩
  have HBQ : Hid (bq = decide (Q < 0)) := hbq
  have HBR : Hid (br = decide (R < 0)) := hbr
  rw [← hbq] at iQ
  rw [← hbr] at iR
  rw [← hbq, ← hbr]
  clear hbq hbr
  replace q1 := q1.below hb2
  replace q2 := q2.below hb2
  replace q3 := q3.below hb2
  replace hb := bstep hb hb2
  replace hb' := hb'.below hb2
  have HSZ : Hid (g + 1 + 1 + 1 < W1.heap.size) := hsz
  have hsz2 := Nat.lt_of_lt_of_le hsz hb2.size
  have HL2 : Hid (W1.heap.size ≤ w2.heap.size) := hb2.size
  clear hsz hb2 ha q0
  obtain ⟨W3, hW3⟩ : ∃ W3, W3 = (w2.alloc (.cells #[.bool bq, .slice qo ql qc] 25)).alloc (.cells #[.bool br, .slice ro rl rc] 25) := ⟨_, rfl⟩
  have p0 : ICell W3 (w2.heap.size) bq (.slice qo ql qc) := by rw [hW3]; exact icell_step (icell_new _ rfl)
  have p1 : ICell W3 (w2.heap.size + 1) br (.slice ro rl rc) := by rw [hW3]; exact icell_new _ (by simp)
  have hb3 : Below w2.heap.size w2 W3 := by rw [hW3]; exact bstep (belowA w2 _) (belowA _ _)
  have hsz3 : w2.heap.size + 1 < W3.heap.size := by rw [hW3]; simp
  replace q1 := q1.below hb3
  replace q2 := q2.below hb3
  replace q3 := q3.below hb3
  replace hb := bstep hb hb3
  replace hb' := hb'.below hb3
  replace iQ := iQ.below hb3
  replace iR := iR.below hb3
  replace hq := hq.below hb3
  replace hr := hr.below hb3
  have HLW0 : Hid (W1.heap.size ≤ W3.heap.size) := Nat.le_trans HL2.out hb3.size
  have HW3 : Hid (W3 = (w2.alloc (.cells #[.bool bq, .slice qo ql qc] 25)).alloc (.cells #[.bool br, .slice ro rl rc] 25)) := hW3
  clear hW3 hb3
  obtain ⟨v, hv⟩ : ∃ v, v = w2.heap.size := ⟨_, rfl⟩
  rw [← hv] at p0 p1 hsz2 hsz3
  have HV : Hid (v = w2.heap.size) := hv
  by_cases hy : y = 0
  · have HZ0 : Hid (E = 11 ∧ Q = FQ ∧ R = FR) := by
      have h0 : rz x y = 0 := by unfold rz; rw [if_pos hy]
      have h1 : ¬ fup x y := by unfold fup; rw [h0]; simp [cmpZ]
      exact ⟨by rw [HEE.out, hy]; rfl, by rw [HQ.out, HFQ.out]; unfold fq; rw [if_neg h1], by rw [HR.out, HFR.out]; unfold fr; rw [if_neg h1]⟩
    obtain ⟨hE0, hQ0, hR0⟩ := HZ0.out
    subst hE0
    subst hQ0
    subst hR0
    clear HZ0 hy
    go_wp2_with fail
    rw [← HW3.out, ← hv]
    clear hv
    go_region
    go_wp2_with fail
    have p0' : ICell W3.drew v bq (.slice qo ql qc) := p0
    have p1' : ICell W3.drew (v + 1) br (.slice ro rl rc) := p1
    have q2' : ICell W3.drew (g + 1 + 1) false (.slice none 0 0) := q2
    have q3' : ICell W3.drew (g + 1 + 1 + 1) false (.slice none 0 0) := q3
    have hq' := hq.same (w' := W3.drew) rfl
    have hr' := hr.same (w' := W3.drew) rfl
    have hbn := bstep hb (below_drew' _)
    generalize W3.drew = W4 at *
    clear p0 p1 q2 q3 hq hr hb
    obtain ⟨e0, e1⟩ := p0'.cells
    obtain ⟨e2, e3⟩ := p1'.cells
    obtain ⟨y20, y21⟩ := q2'.cells
    obtain ⟨y30, y31⟩ := q3'.cells
    have f20 := q2'.thaw 0
    have f21 := q2'.thaw 1
    have f30 := q3'.thaw 0
    have f31 := q3'.thaw 1
    have hne1 : ¬ v = g + 1 + 1 := by omega
    have hne2 : ¬ v = g + 1 + 1 + 1 := by omega
    have hne3 : ¬ v + 1 = g + 1 + 1 := by omega
    have hne4 : ¬ v + 1 = g + 1 + 1 + 1 := by omega
    have HW := icell_two (k1 := bq) (k2 := br) (v1 := .slice qo ql qc) (v2 := .slice ro rl rc) (show ICell W4.drew (g + 1 + 1) false (.slice none 0 0) from q2') (show ICell W4.drew (g + 1 + 1 + 1) false (.slice none 0 0) from q3') (by omega)
    have HW2 : Hid _ := HW
    clear HW
    have HE0 := quo_done (w := w) (wr := W4.drew) (B := W1.heap.size) (q := Q) (r := R) (er := 11) (g := g + 1 + 1) (g2 := g + 1 + 1 + 1) (v0 := .bool bq) (v1 := .slice qo ql qc) (u0 := .bool br) (u1 := .slice ro rl rc) (hq'.same rfl) (hr'.same rfl) hqr (by rw [HG.out]; omega) (by rw [HG.out]; omega) (by have := HSZ.out; omega) HSZ.out (bstep hbn (below_drew' _))
    rw [← HBQ.out, ← HBR.out] at HE0
    have HE : Hid (QEnd w Q R 11 _ _) := HE0
    clear HE0
    refine region_late [(0, fun w' => w'.cell? ⟨v, 0, none⟩ = some (.bool bq) ∧ w'.cell? ⟨v, 1, none⟩ = some (.slice qo ql qc)), (1, fun w' => w'.cell? ⟨v + 1, 0, none⟩ = some (.bool br) ∧ w'.cell? ⟨v + 1, 1, none⟩ = some (.slice ro rl rc)), (2, fun _ => True)] (by kernel_rfl) ?_
    have hHeld : AllL W4.drew [(0, fun w' => w'.cell? ⟨v, 0, none⟩ = some (.bool bq) ∧ w'.cell? ⟨v, 1, none⟩ = some (.slice qo ql qc)), (1, fun w' => w'.cell? ⟨v + 1, 0, none⟩ = some (.bool br) ∧ w'.cell? ⟨v + 1, 1, none⟩ = some (.slice ro rl rc)), (2, fun _ => True)] := ⟨(show ICell W4.drew v bq (.slice qo ql qc) from p0').cells, (show ICell W4.drew (v + 1) br (.slice ro rl rc) from p1').cells, trivial, trivial⟩
    refine late_tk 0 (v := .agg #[.bool bq, .slice qo ql qc]) rfl (List.Mem.head _) (Or.inl ⟨by rfl, ?_⟩) hHeld ?_
    · (intro u hu; (try dsimp only at hu); go_split_ands; go_simp)
    (try simp only [Act.put, putA, putB, putC])
    refine late_tk 1 (v := .agg #[.bool br, .slice ro rl rc]) rfl (List.Mem.tail _ (List.Mem.head _)) (Or.inl ⟨by rfl, ?_⟩) hHeld ?_
    · (intro u hu; (try dsimp only at hu); go_split_ands; go_simp)
    (try simp only [Act.put, putA, putB, putC])
    refine late_tk 2 (v := .int .i64 11) rfl (List.Mem.tail _ (List.Mem.tail _ (List.Mem.head _))) (Or.inl ⟨by rfl, ?_⟩) hHeld ?_
    · (intro u hu; (try dsimp only at hu); go_split_ands; go_simp)
    (try simp only [Act.put, putA, putB, putC])
    refine late_st 3 rfl (fun K hK => ?_)
    go_simp
    refine hK.out _ _ ⟨kpt 3, Or.inr ⟨keepS hne3 hHeld.2.1.1, keepS hne3 hHeld.2.1.2⟩, Or.inr trivial, trivial⟩ ?_
    clear hK K
    (try simp only [Act.put, putA, putB, putC])
    refine late_st 4 rfl (fun K hK => ?_)
    go_simp
    refine hK.out _ _ ⟨kpt 3, kpt 4, Or.inr trivial, trivial⟩ ?_
    clear hK K
    (try simp only [Act.put, putA, putB, putC])
    refine late_st 5 rfl (fun K hK => ?_)
    go_simp
    refine hK.out _ _ ⟨kpt 3, kpt 4, kpt 5, trivial⟩ ?_
    clear hK K
    (try simp only [Act.put, putA, putB, putC])
    refine late_done (by kernel_rfl) ?_ _
    clear e0 e1 e2 e3 y20 y21 y30 y31 f20 f21 f30 f31 hHeld
    go_wp2_with fail
    (try simp only [Exit.inBlock, Exit.then])
    exact bodyPost_ret (results_cct (p := 4) (q := 5) (u := 6) rfl _ _ (g + 1 + 1) (g + 1 + 1 + 1) 25 25 _ _ (0, 0) (0, 0) _ rfl rfl HW2.out.1 HW2.out.2 Tryz.underlying25 rfl (by kernel_rfl) (by kernel_rfl)) rfl HE.out
  · have HZ0 : Hid (E = 0) := by show _ = _; rw [HEE.out]; unfold errZ; rw [if_neg (by omega)]
    have hE0 := HZ0.out
    subst hE0
    clear HZ0
    obtain ⟨s1, hs1⟩ : ∃ s, s = cmpZ R 0 := ⟨_, rfl⟩
    obtain ⟨s2, hs2⟩ : ∃ s, s = cmpZ y 0 := ⟨_, rfl⟩
    obtain ⟨p, hp⟩ : ∃ p, p = s1 * s2 := ⟨_, rfl⟩
    have hpb : -1 ≤ p ∧ p ≤ 1 := by rw [hp, hs1, hs2]; exact cmpZ_mul R y
    have HS1 : Hid (cmpZ R 0 = s1) := hs1.symm
    have HS2 : Hid (cmpZ y 0 = s2) := hs2.symm
    have HP : Hid (fup x y ↔ p < 0) := by show _ ↔ _; unfold fup; rw [← HR.out, hp, hs1, hs2]
    have hw : IntKind.i64.wrap (s1 * s2) = p := by rw [← hp, IntKind.wrap_i64]; omega
    clear hs1 hs2 hp hy
    go_wp2_with fail
    rw [← HW3.out, ← hv]
    clear hv
    obtain ⟨c1, d1⟩ := q1.cells
    obtain ⟨e0, e1⟩ := p0.cells
    obtain ⟨e2, e3⟩ := p1.cells
    by_cases hp0 : p < 0
    · go_region_held3 (fun w' => w'.cell? ⟨g + 1, 0, none⟩ = some (.bool nb) ∧ w'.cell? ⟨g + 1, 1, none⟩ = some (.slice bo bl bc) ∧ w'.cell? ⟨v + 1, 0, none⟩ = some (.bool br) ∧ w'.cell? ⟨v + 1, 1, none⟩ = some (.slice ro rl rc)) (((try dsimp only); go_split_ands; refine ⟨?_, ?_, ?_, ?_⟩ <;> first | exact keepB (by with_reducible assumption) (by with_reducible assumption) | go_keep)) (first
      | (go_at_call_of 71 ro; refine (c_sign (iR.below (below_drew' _))).mono ?_; rw [HS1.out]; rintro e w4 ⟨rfl, hb4⟩)
      | (go_at_call_of 71 bo; refine (c_sign ((hb'.below (below_drew' _)).below hb4)).mono ?_; rw [HS2.out]; rintro e w5 ⟨rfl, hb5⟩))
      go_wp2_with fail
      have hb45 := bstep (below_drew' _) (bstep hb4 hb5)
      replace q1 := q1.below hb45
      replace q2 := q2.below hb45
      replace q3 := q3.below hb45
      replace p0 := p0.below hb45
      replace p1 := p1.below hb45
      replace hb := bstep hb hb45
      replace hq := hq.below hb45
      replace hr := hr.below hb45
      replace iQ := iQ.below hb45
      replace iR := iR.below hb45
      replace hb' := hb'.below hb45
      have HLW : Hid (W1.heap.size ≤ w5.heap.size) := Nat.le_trans HLW0.out hb45.size
      replace hsz3 := Nat.lt_of_lt_of_le hsz3 hb45.size
      clear c1 d1 e0 e1 e2 e3 hb4 hb5 hb45 hw
      have HFQ2 : Hid (Q - 1 = FQ) := by show _ = _; rw [HQ.out, HFQ.out]; unfold fq; rw [if_pos (HP.out.2 hp0)]
      have HFR2 : Hid (R + y = FR) := by show _ = _; rw [HR.out, HFR.out]; unfold fr; rw [if_pos (HP.out.2 hp0)]
      clear hp0
      have HP0 : Hid (ICell w5.drew v bq (.slice qo ql qc) ∧ ICell w5.drew (v + 1) br (.slice ro rl rc) ∧ ICell w5.drew (g + 1) nb (.slice bo bl bc)) := ⟨p0, p1, q1⟩
      refine region_late [(0, fun w' => w'.cell? ⟨v, 0, none⟩ = some (.bool bq) ∧ w'.cell? ⟨v, 1, none⟩ = some (.slice qo ql qc)), (3, fun w' => w'.cell? ⟨v + 1, 0, none⟩ = some (.bool br) ∧ w'.cell? ⟨v + 1, 1, none⟩ = some (.slice ro rl rc)), (4, fun w' => w'.cell? ⟨g + 1, 0, none⟩ = some (.bool nb) ∧ w'.cell? ⟨g + 1, 1, none⟩ = some (.slice bo bl bc))] (by kernel_rfl) ?_
      have hHeld : AllL w5.drew [(0, fun w' => w'.cell? ⟨v, 0, none⟩ = some (.bool bq) ∧ w'.cell? ⟨v, 1, none⟩ = some (.slice qo ql qc)), (3, fun w' => w'.cell? ⟨v + 1, 0, none⟩ = some (.bool br) ∧ w'.cell? ⟨v + 1, 1, none⟩ = some (.slice ro rl rc)), (4, fun w' => w'.cell? ⟨g + 1, 0, none⟩ = some (.bool nb) ∧ w'.cell? ⟨g + 1, 1, none⟩ = some (.slice bo bl bc))] := ⟨HP0.out.1.cells, HP0.out.2.1.cells, HP0.out.2.2.cells, trivial⟩
      refine late_tk 0 (v := .agg #[.bool bq, .slice qo ql qc]) rfl (List.Mem.head _) (Or.inl ⟨by rfl, ?_⟩) hHeld ?_
      · (intro u hu; (try dsimp only at hu); go_split_ands; go_simp)
      (try simp only [Act.put, putA, putB, putC])
      refine late_tk 3 (v := .agg #[.bool br, .slice ro rl rc]) rfl (List.Mem.tail _ (List.Mem.head _)) (Or.inl ⟨by rfl, ?_⟩) hHeld ?_
      · (intro u hu; (try dsimp only at hu); go_split_ands; go_simp)
      (try simp only [Act.put, putA, putB, putC])
      refine late_tk 4 (v := .agg #[.bool nb, .slice bo bl bc]) rfl (List.Mem.tail _ (List.Mem.tail _ (List.Mem.head _))) (Or.inl ⟨by rfl, ?_⟩) hHeld ?_
      · (intro u hu; (try dsimp only at hu); go_split_ands; go_simp)
      (try simp only [Act.put, putA, putB, putC])
      refine late_st 1 rfl (fun K hK => ?_)
      go_simp
      refine (c_of (by decide) (by decide)).mono ?_
      rintro e w6 ⟨o, rfl, ho, hb6⟩
      have io := ho.num Sz.one (by decide)
      obtain ⟨on, oo, ol, oc, ox, rfl, ou, oll, oz⟩ := io
      have io : INum w6 (.agg #[.bool on, .slice oo ol oc]) 1 := ⟨_, _, _, _, _, rfl, ou, oll, oz⟩
      clear ho ou oll oz
      go_wp2_with fail
      refine hK.out _ _ (AllL.kept ⟨(HP0.out.1.below hb6).cells, (HP0.out.2.1.below hb6).cells, (HP0.out.2.2.below hb6).cells, trivial⟩) ?_
      clear hK K
      (try simp only [Act.put, putA, putB, putC])
      refine late_st 2 rfl (fun K hK => ?_)
      go_simp
      refine (c_sub ((iQ.below (below_drew' _)).below hb6) io).mono ?_
      rw [HFQ2.out]
      rintro e w7 ⟨s, rfl, hs, hb7⟩
      obtain ⟨ms, rfl, hms⟩ := hs
      obtain ⟨so, sl, sc, rfl⟩ := hms.sl
      go_wp2_with fail
      refine hK.out _ _ (AllL.kept ⟨((HP0.out.1.below hb6).below hb7).cells, ((HP0.out.2.1.below hb6).below hb7).cells, ((HP0.out.2.2.below hb6).below hb7).cells, trivial⟩) ?_
      clear hK K
      (try simp only [Act.put, putA, putB, putC])
      refine late_st 5 rfl (fun K hK => ?_)
      go_simp
      refine (c_add (((iR.below (below_drew' _)).below hb6).below hb7) (((hb'.below (below_drew' _)).below hb6).below hb7)).mono ?_
      rw [HFR2.out]
      rintro e w8 ⟨s, rfl, hs, hb8⟩
      obtain ⟨mt, rfl, hmt⟩ := hs
      obtain ⟨to, tl, tc, rfl⟩ := hmt.sl
      go_wp2_with fail
      refine hK.out _ _ (AllL.kept ⟨(((HP0.out.1.below hb6).below hb7).below hb8).cells, (((HP0.out.2.1.below hb6).below hb7).below hb8).cells, (((HP0.out.2.2.below hb6).below hb7).below hb8).cells, trivial⟩) ?_
      clear hK K
      (try simp only [Act.put, putA, putB, putC])
      have hb68 := bstep (below_drew' _) (bstep hb6 (bstep hb7 hb8))
      have pp0 := p0.below hb68
      have pp1 := p1.below hb68
      obtain ⟨i0, i1⟩ := pp0.cells
      obtain ⟨i2, i3⟩ := pp1.cells
      have f0 := pp0.thaw 0
      have f1 := pp0.thaw 1
      have f2 := pp1.thaw 0
      have f3 := pp1.thaw 1
      have hap := apart_later hms hmt (Nat.le_refl _)
      obtain ⟨bq2, hbq2⟩ : ∃ b, b = decide (FQ < 0) := ⟨_, rfl⟩
      obtain ⟨br2, hbr2⟩ : ∃ b, b = decide (FR < 0) := ⟨_, rfl⟩
      have HBQ2 : Hid (bq2 = decide (FQ < 0)) := hbq2
      have HBR2 : Hid (br2 = decide (FR < 0)) := hbr2
      rw [← hbq2, ← hbr2]
      clear hbq2 hbr2
      have hle6 : w5.heap.size ≤ w6.heap.size := Nat.le_trans (below_drew' _).size hb6.size
      have hle7 := hb7.size
      have hleW : W1.heap.size ≤ w5.heap.size := HLW.out
      have hv6 : v + 1 < w6.heap.size := by omega
      have hq2 := (own_far (v0 := .bool bq2) (v1 := .slice so sl sc) (u0 := .bool br2) (u1 := .slice to tl tc) (hms.below hb8) (g := v) (g2 := v + 1) (by omega) (by omega)).mono (B' := W1.heap.size) (by omega)
      have hr2 := (own_far (v0 := .bool bq2) (v1 := .slice so sl sc) (u0 := .bool br2) (u1 := .slice to tl tc) hmt (g := v) (g2 := v + 1) (by omega) (by omega)).mono (B' := W1.heap.size) (by omega)
      have cq2 := icell_keep4 (a0 := .bool bq2) (a1 := .slice so sl sc) (b0 := .bool br2) (b1 := .slice to tl tc) (q2.below hb68) (v := v) (v2 := v + 1) (by omega) (by omega)
      have cq3 := icell_keep4 (a0 := .bool bq2) (a1 := .slice so sl sc) (b0 := .bool br2) (b1 := .slice to tl tc) (q3.below hb68) (v := v) (v2 := v + 1) (by omega) (by omega)
      have cpp := icell_two (k1 := bq2) (k2 := br2) (v1 := .slice so sl sc) (v2 := .slice to tl tc) pp0 pp1 (by omega)
      have hbF := below_far (v0 := .bool bq2) (v1 := .slice so sl sc) (u0 := .bool br2) (u1 := .slice to tl tc) (bstep hb hb68) (g := v) (g2 := v + 1) (by rw [HG.out] at hsz2; omega) (by rw [HG.out] at hsz2; omega)
      refine late_st 6 rfl (fun K hK => ?_)
      go_simp
      refine hK.out _ _ ⟨kpt 6, kpt 5, kpt 5, trivial⟩ ?_
      clear hK K
      (try simp only [Act.put, putA, putB, putC])
      refine late_st 7 rfl (fun K hK => ?_)
      go_simp
      refine hK.out _ _ ⟨kpt 6, kpt 5, kpt 5, trivial⟩ ?_
      clear hK K
      (try simp only [Act.put, putA, putB, putC])
      refine late_done (by kernel_rfl) ?_ _
      obtain ⟨WF, hWF⟩ : ∃ WF, WF = ((((w8.setCell ⟨v, 0, none⟩ (.bool bq2)).setCell ⟨v, 1, none⟩ (.slice so sl sc)).setCell ⟨v + 1, 0, none⟩ (.bool br2)).setCell ⟨v + 1, 1, none⟩ (.slice to tl tc)) := ⟨_, rfl⟩
      rw [← hWF] at hq2 hr2 cq2 cq3 cpp hbF ⊢
      obtain ⟨cp0, cp1⟩ := cpp
      clear hWF i0 i1 i2 i3 f0 f1 f2 f3 pp0 pp1 hHeld hms hmt hb6 hb7 hb8 hb68 p0 p1 q1 q2 q3 hq hr io iQ iR hb' hb hqr
      go_wp2_with fail
      obtain ⟨e0, e1⟩ := cp0.cells
      obtain ⟨e2, e3⟩ := cp1.cells
      obtain ⟨y20, y21⟩ := cq2.cells
      obtain ⟨y30, y31⟩ := cq3.cells
      have f20 := cq2.thaw 0
      have f21 := cq2.thaw 1
      have f30 := cq3.thaw 0
      have f31 := cq3.thaw 1
      have hne1 : ¬ v = g + 1 + 1 := by omega
      have hne2 : ¬ v = g + 1 + 1 + 1 := by omega
      have hne3 : ¬ v + 1 = g + 1 + 1 := by omega
      have hne4 : ¬ v + 1 = g + 1 + 1 + 1 := by omega
      have HW := icell_two (k1 := bq2) (k2 := br2) (v1 := .slice so sl sc) (v2 := .slice to tl tc) (show ICell WF.drew (g + 1 + 1) false (.slice none 0 0) from cq2) (show ICell WF.drew (g + 1 + 1 + 1) false (.slice none 0 0) from cq3) (by omega)
      have HW2 : Hid _ := HW
      clear HW
      have HE0 := quo_done (w := w) (wr := WF.drew) (B := W1.heap.size) (q := FQ) (r := FR) (er := 0) (g := g + 1 + 1) (g2 := g + 1 + 1 + 1) (v0 := .bool bq2) (v1 := .slice so sl sc) (u0 := .bool br2) (u1 := .slice to tl tc) (hq2.same rfl) (hr2.same rfl) hap (by rw [HG.out]; omega) (by rw [HG.out]; omega) (by have := HSZ.out; omega) HSZ.out (bstep hbF (below_drew' _))
      rw [← HBQ2.out, ← HBR2.out] at HE0
      have HE : Hid (QEnd w FQ FR 0 _ _) := HE0
      clear HE0
      refine region_late [(0, fun w' => w'.cell? ⟨v, 0, none⟩ = some (.bool bq2) ∧ w'.cell? ⟨v, 1, none⟩ = some (.slice so sl sc)), (1, fun w' => w'.cell? ⟨v + 1, 0, none⟩ = some (.bool br2) ∧ w'.cell? ⟨v + 1, 1, none⟩ = some (.slice to tl tc)), (2, fun _ => True)] (by kernel_rfl) ?_
      have hHeld : AllL WF.drew [(0, fun w' => w'.cell? ⟨v, 0, none⟩ = some (.bool bq2) ∧ w'.cell? ⟨v, 1, none⟩ = some (.slice so sl sc)), (1, fun w' => w'.cell? ⟨v + 1, 0, none⟩ = some (.bool br2) ∧ w'.cell? ⟨v + 1, 1, none⟩ = some (.slice to tl tc)), (2, fun _ => True)] := ⟨(show ICell WF.drew v bq2 (.slice so sl sc) from cp0).cells, (show ICell WF.drew (v + 1) br2 (.slice to tl tc) from cp1).cells, trivial, trivial⟩
      refine late_tk 0 (v := .agg #[.bool bq2, .slice so sl sc]) rfl (List.Mem.head _) (Or.inl ⟨by rfl, ?_⟩) hHeld ?_
      · (intro u hu; (try dsimp only at hu); go_split_ands; go_simp)
      (try simp only [Act.put, putA, putB, putC])
      refine late_tk 1 (v := .agg #[.bool br2, .slice to tl tc]) rfl (List.Mem.tail _ (List.Mem.head _)) (Or.inl ⟨by rfl, ?_⟩) hHeld ?_
      · (intro u hu; (try dsimp only at hu); go_split_ands; go_simp)
      (try simp only [Act.put, putA, putB, putC])
      refine late_tk 2 (v := .int .i64 0) rfl (List.Mem.tail _ (List.Mem.tail _ (List.Mem.head _))) (Or.inl ⟨by rfl, ?_⟩) hHeld ?_
      · (intro u hu; (try dsimp only at hu); go_split_ands; go_simp)
      (try simp only [Act.put, putA, putB, putC])
      refine late_st 3 rfl (fun K hK => ?_)
      go_simp
      refine hK.out _ _ ⟨kpt 3, Or.inr ⟨keepS hne3 hHeld.2.1.1, keepS hne3 hHeld.2.1.2⟩, Or.inr trivial, trivial⟩ ?_
      clear hK K
      (try simp only [Act.put, putA, putB, putC])
      refine late_st 4 rfl (fun K hK => ?_)
      go_simp
      refine hK.out _ _ ⟨kpt 3, kpt 4, Or.inr trivial, trivial⟩ ?_
      clear hK K
      (try simp only [Act.put, putA, putB, putC])
      refine late_st 5 rfl (fun K hK => ?_)
      go_simp
      refine hK.out _ _ ⟨kpt 3, kpt 4, kpt 5, trivial⟩ ?_
      clear hK K
      (try simp only [Act.put, putA, putB, putC])
      refine late_done (by kernel_rfl) ?_ _
      clear e0 e1 e2 e3 y20 y21 y30 y31 f20 f21 f30 f31 hHeld
      go_wp2_with fail
      (try simp only [Exit.inBlock, Exit.then])
      exact bodyPost_ret (results_cct (p := 4) (q := 5) (u := 6) rfl _ _ (g + 1 + 1) (g + 1 + 1 + 1) 25 25 _ _ (0, 0) (0, 0) _ rfl rfl HW2.out.1 HW2.out.2 Tryz.underlying25 rfl (by kernel_rfl) (by kernel_rfl)) rfl HE.out
    · go_region_held3 (fun w' => w'.cell? ⟨g + 1, 0, none⟩ = some (.bool nb) ∧ w'.cell? ⟨g + 1, 1, none⟩ = some (.slice bo bl bc) ∧ w'.cell? ⟨v + 1, 0, none⟩ = some (.bool br) ∧ w'.cell? ⟨v + 1, 1, none⟩ = some (.slice ro rl rc)) (((try dsimp only); go_split_ands; refine ⟨?_, ?_, ?_, ?_⟩ <;> first | exact keepB (by with_reducible assumption) (by with_reducible assumption) | go_keep)) (first
      | (go_at_call_of 71 ro; refine (c_sign (iR.below (below_drew' _))).mono ?_; rw [HS1.out]; rintro e w4 ⟨rfl, hb4⟩)
      | (go_at_call_of 71 bo; refine (c_sign ((hb'.below (below_drew' _)).below hb4)).mono ?_; rw [HS2.out]; rintro e w5 ⟨rfl, hb5⟩))
      go_wp2_with fail
      have hb45 := bstep (below_drew' _) (bstep hb4 hb5)
      replace q1 := q1.below hb45
      replace q2 := q2.below hb45
      replace q3 := q3.below hb45
      replace p0 := p0.below hb45
      replace p1 := p1.below hb45
      replace hb := bstep hb hb45
      replace hq := hq.below hb45
      replace hr := hr.below hb45
      replace iQ := iQ.below hb45
      replace iR := iR.below hb45
      replace hb' := hb'.below hb45
      have HLW : Hid (W1.heap.size ≤ w5.heap.size) := Nat.le_trans HLW0.out hb45.size
      replace hsz3 := Nat.lt_of_lt_of_le hsz3 hb45.size
      clear c1 d1 e0 e1 e2 e3 hb4 hb5 hb45 hw
      have HFQ2 : Hid (Q = FQ) := by show _ = _; rw [HQ.out, HFQ.out]; unfold fq; rw [if_neg (fun h => by have := HP.out.1 h; omega)]
      have HFR2 : Hid (R = FR) := by show _ = _; rw [HR.out, HFR.out]; unfold fr; rw [if_neg (fun h => by have := HP.out.1 h; omega)]
      obtain hQ0 := HFQ2.out
      obtain hR0 := HFR2.out
      subst hQ0
      subst hR0
      clear hp0
      obtain ⟨e0, e1⟩ := p0.cells
      obtain ⟨e2, e3⟩ := p1.cells
      obtain ⟨y20, y21⟩ := q2.cells
      obtain ⟨y30, y31⟩ := q3.cells
      have f20 := q2.thaw 0
      have f21 := q2.thaw 1
      have f30 := q3.thaw 0
      have f31 := q3.thaw 1
      have hne1 : ¬ v = g + 1 + 1 := by omega
      have hne2 : ¬ v = g + 1 + 1 + 1 := by omega
      have hne3 : ¬ v + 1 = g + 1 + 1 := by omega
      have hne4 : ¬ v + 1 = g + 1 + 1 + 1 := by omega
      have HW := icell_two (k1 := bq) (k2 := br) (v1 := .slice qo ql qc) (v2 := .slice ro rl rc) (show ICell w5.drew (g + 1 + 1) false (.slice none 0 0) from q2) (show ICell w5.drew (g + 1 + 1 + 1) false (.slice none 0 0) from q3) (by omega)
      have HW2 : Hid _ := HW
      clear HW
      have HE0 := quo_done (w := w) (wr := w5.drew) (B := W1.heap.size) (q := Q) (r := R) (er := 0) (g := g + 1 + 1) (g2 := g + 1 + 1 + 1) (v0 := .bool bq) (v1 := .slice qo ql qc) (u0 := .bool br) (u1 := .slice ro rl rc) (hq.same rfl) (hr.same rfl) hqr (by rw [HG.out]; omega) (by rw [HG.out]; omega) (by have := HSZ.out; omega) HSZ.out (bstep hb (below_drew' _))
      rw [← HBQ.out, ← HBR.out] at HE0
      have HE : Hid (QEnd w Q R 0 _ _) := HE0
      clear HE0
      refine region_late [(0, fun w' => w'.cell? ⟨v, 0, none⟩ = some (.bool bq) ∧ w'.cell? ⟨v, 1, none⟩ = some (.slice qo ql qc)), (1, fun w' => w'.cell? ⟨v + 1, 0, none⟩ = some (.bool br) ∧ w'.cell? ⟨v + 1, 1, none⟩ = some (.slice ro rl rc)), (2, fun _ => True)] (by kernel_rfl) ?_
      have hHeld : AllL w5.drew [(0, fun w' => w'.cell? ⟨v, 0, none⟩ = some (.bool bq) ∧ w'.cell? ⟨v, 1, none⟩ = some (.slice qo ql qc)), (1, fun w' => w'.cell? ⟨v + 1, 0, none⟩ = some (.bool br) ∧ w'.cell? ⟨v + 1, 1, none⟩ = some (.slice ro rl rc)), (2, fun _ => True)] := ⟨(show ICell w5.drew v bq (.slice qo ql qc) from p0).cells, (show ICell w5.drew (v + 1) br (.slice ro rl rc) from p1).cells, trivial, trivial⟩
      refine late_tk 0 (v := .agg #[.bool bq, .slice qo ql qc]) rfl (List.Mem.head _) (Or.inl ⟨by rfl, ?_⟩) hHeld ?_
      · (intro u hu; (try dsimp only at hu); go_split_ands; go_simp)
      (try simp only [Act.put, putA, putB, putC])
      refine late_tk 1 (v := .agg #[.bool br, .slice ro rl rc]) rfl (List.Mem.tail _ (List.Mem.head _)) (Or.inl ⟨by rfl, ?_⟩) hHeld ?_
      · (intro u hu; (try dsimp only at hu); go_split_ands; go_simp)
      (try simp only [Act.put, putA, putB, putC])
      refine late_tk 2 (v := .int .i64 0) rfl (List.Mem.tail _ (List.Mem.tail _ (List.Mem.head _))) (Or.inl ⟨by rfl, ?_⟩) hHeld ?_
      · (intro u hu; (try dsimp only at hu); go_split_ands; go_simp)
      (try simp only [Act.put, putA, putB, putC])
      refine late_st 3 rfl (fun K hK => ?_)
      go_simp
      refine hK.out _ _ ⟨kpt 3, Or.inr ⟨keepS hne3 hHeld.2.1.1, keepS hne3 hHeld.2.1.2⟩, Or.inr trivial, trivial⟩ ?_
      clear hK K
      (try simp only [Act.put, putA, putB, putC])
      refine late_st 4 rfl (fun K hK => ?_)
      go_simp
      refine hK.out _ _ ⟨kpt 3, kpt 4, Or.inr trivial, trivial⟩ ?_
      clear hK K
      (try simp only [Act.put, putA, putB, putC])
      refine late_st 5 rfl (fun K hK => ?_)
      go_simp
      refine hK.out _ _ ⟨kpt 3, kpt 4, kpt 5, trivial⟩ ?_
      clear hK K
      (try simp only [Act.put, putA, putB, putC])
      refine late_done (by kernel_rfl) ?_ _
      clear e0 e1 e2 e3 y20 y21 y30 y31 f20 f21 f30 f31 hHeld
      go_wp2_with fail
      (try simp only [Exit.inBlock, Exit.then])
      exact bodyPost_ret (results_cct (p := 4) (q := 5) (u := 6) rfl _ _ (g + 1 + 1) (g + 1 + 1 + 1) 25 25 _ _ (0, 0) (0, 0) _ rfl rfl HW2.out.1 HW2.out.2 Tryz.underlying25 rfl (by kernel_rfl) (by kernel_rfl)) rfl HE.out
end Go.Proofs.YtfnafgjnimfmjaaGreatDoor

namespace Go.Proofs.YtfnafgjnimfmjaaGreatDoor
open Go.RowKit
attribute [local go_sem ↓] Go.wp_at_zero Go.wp_at_succ

section
variable {w w' : World} {g : Nat} {n0 n1 n2 : Bool} {m0 m1 m2 : Value}
end
end Go.Proofs.YtfnafgjnimfmjaaGreatDoor

namespace Go.Proofs.YtfnafgjnimfmjaaGreatDoor
open Go.RowKit
attribute [local go_sem ↓] Go.wp_at_zero Go.wp_at_succ

theorem iend2 {w wr : World} {g : Nat} {v0 v1 : Value} (hb : Below w.heap.size w wr) (hg : w.heap.size ≤ g) : Below w.heap.size w ((wr.setCell ⟨g, 0, none⟩ v0).setCell ⟨g, 1, none⟩ v1) := (hb.setCell (p := ⟨g, 0, none⟩) hg _).setCell (p := ⟨g, 1, none⟩) hg _
end Go.Proofs.YtfnafgjnimfmjaaGreatDoor

namespace Go.Proofs.YtfnafgjnimfmjaaGreatDoor
open Go.RowKit
attribute [local go_sem ↓] Go.wp_at_zero Go.wp_at_succ

section
variable {w : World} {p q : Nat} {v0 v1 v2 v3 v4 v5 u0 u1 u2 u3 u4 u5 : Value}

end
end Go.Proofs.YtfnafgjnimfmjaaGreatDoor
