/-
  Proved here: what Floor of package whole answers. Proved here: what a step of Bezout in package whole answers. Proved here: what onSideOf of package whole answers; plain facts on Euclid's rows. Proved here: what Bezout of package whole answers.
-/
import Derived.Test.YtcbfhakolfcmgaaDoorWholeX1
import Derived.Test.YtcbfhakolfcmgaaDoorLate
import Derived.Test.YtcbfhakolfcmgaaDoorValAtAll
namespace Go.Proofs.YtcbfhakolfcmgaaDoor
open Go.RowKit
attribute [local go_sem ↓] Go.wp_at_zero Go.wp_at_succ

theorem INum.sz {w : World} {v : Value} {z : Int} (h : INum w v z) : Sz z 1000000 := by
  obtain ⟨neg, ao, n, cap, xs, rfl, h1, h2, rfl⟩ := h
  exact Sz.of_num h1 h2
theorem rz_le (x y : Int) : (rz x y).natAbs ≤ x.natAbs := by
  unfold rz
  split
  · simp
  · rw [Int.natAbs_tmod]; exact Nat.mod_le _ _
theorem tdiv_le (x y : Int) : (x.tdiv y).natAbs ≤ x.natAbs := by rw [Int.natAbs_tdiv]; exact Nat.div_le_self _ _
theorem INum.mk' {B : Nat} {w : World} {m : Value} {z : Int} (h : Own B 64 w m (lim z.natAbs)) (hs : Sz z 1000000) : INum w (.agg #[.bool (decide (z < 0)), m]) z := IOwn.num ⟨m, rfl, h⟩ hs (Nat.le_refl _)
/-- Whether rounding towards 0 went up. -/
def fup (x y : Int) : Prop := cmpZ (rz x y) 0 * cmpZ y 0 < 0
instance (x y : Int) : Decidable (fup x y) := inferInstanceAs (Decidable (_ < _))
def fq (x y : Int) : Int := if fup x y then x.tdiv y - 1 else x.tdiv y
def fr (x y : Int) : Int := if fup x y then rz x y + y else rz x y
theorem cmpZ_bd (x y : Int) : cmpZ x y = -1 ∨ cmpZ x y = 0 ∨ cmpZ x y = 1 := by
  unfold cmpZ
  split
  · exact Or.inl rfl
  · split
    · exact Or.inr (Or.inl rfl)
    · exact Or.inr (Or.inr rfl)
theorem icell_keep4 {w : World} {g v v2 : Nat} {n : Bool} {m a0 a1 b0 b1 : Value} (h : ICell w g n m) (h1 : g ≠ v) (h2 : g ≠ v2) : ICell ((((w.setCell ⟨v, 0, none⟩ a0).setCell ⟨v, 1, none⟩ a1).setCell ⟨v2, 0, none⟩ b0).setCell ⟨v2, 1, none⟩ b1) g n m :=
  (((h.other h1 0 _).other h1 1 _).other h2 0 _).other h2 1 _
theorem cmpZ_mul (x y : Int) : -1 ≤ cmpZ x 0 * cmpZ y 0 ∧ cmpZ x 0 * cmpZ y 0 ≤ 1 := by
  rcases cmpZ_bd x 0 with h | h | h <;> rcases cmpZ_bd y 0 with h2 | h2 | h2 <;> rw [h, h2] <;> decide

set_option maxRecDepth 100000 in
set_option maxHeartbeats 6400000 in
theorem c_floor {a b : Value} {x y : Int} {w : World} (ha : INum w a x) (hb' : INum w b y) : Calls Tryd.prog 48 #[a, b] w fun e w' => QEnd w (fq x y) (fr x y) (errZ y.natAbs) e w' := by
  obtain ⟨na, ao, al, ac, xa, rfl, ua, la, za⟩ := ha
  have ha : INum w (.agg #[.bool na, .slice ao al ac]) x := ⟨_, _, _, _, _, rfl, ua, la, za⟩
  clear ua la za
  obtain ⟨nb, bo, bl, bc, xb, rfl, ub, lb, zb⟩ := hb'
  have hb' : INum w (.agg #[.bool nb, .slice bo bl bc]) y := ⟨_, _, _, _, _, rfl, ub, lb, zb⟩
  clear ub lb zb
  obtain ⟨W1, hW1⟩ : ∃ W1, W1 = (((w.alloc (.cells #[.bool na, .slice ao al ac] 25)).alloc (.cells #[.bool nb, .slice bo bl bc] 25)).alloc (.cells #[.bool false, .slice none 0 0] 25)).alloc (.cells #[.bool false, .slice none 0 0] 25) := ⟨_, rfl⟩
  have q0 : ICell W1 (w.heap.size) na (.slice ao al ac) := by rw [hW1]; exact (icell_step (icell_step (icell_step (icell_new _ (by simp)))))
  have q1 : ICell W1 (w.heap.size + 1) nb (.slice bo bl bc) := by rw [hW1]; exact (icell_step (icell_step (icell_new _ (by simp))))
  have q2 : ICell W1 (w.heap.size + 1 + 1) false (.slice none 0 0) := by rw [hW1]; exact (icell_step (icell_new _ (by simp)))
  have q3 : ICell W1 (w.heap.size + 1 + 1 + 1) false (.slice none 0 0) := by rw [hW1]; exact (icell_new _ (by simp))
  have hb : Below w.heap.size w W1 := by rw [hW1]; exact bstep (bstep (bstep (belowA w _) (belowA _ _)) (belowA _ _)) (belowA _ _)
  have hsz : w.heap.size + 1 + 1 + 1 < W1.heap.size := by rw [hW1]; simp
  replace ha := ha.below hb
  replace hb' := hb'.below hb
  have HW1 : Hid (W1 = (((w.alloc (.cells #[.bool na, .slice ao al ac] 25)).alloc (.cells #[.bool nb, .slice bo bl bc] 25)).alloc (.cells #[.bool false, .slice none 0 0] 25)).alloc (.cells #[.bool false, .slice none 0 0] 25)) := hW1
  clear hW1
  obtain ⟨FQ, hFQ⟩ : ∃ Q, Q = fq x y := ⟨_, rfl⟩
  obtain ⟨FR, hFR⟩ : ∃ R, R = fr x y := ⟨_, rfl⟩
  have HFQ : Hid (FQ = fq x y) := hFQ
  have HFR : Hid (FR = fr x y) := hFR
  rw [← hFQ, ← hFR]
  clear hFQ hFR
  obtain ⟨E, hE⟩ : ∃ E, E = errZ y.natAbs := ⟨_, rfl⟩
  have HEE : Hid (E = errZ y.natAbs) := hE
  rw [← hE]
  clear hE
  go_enter Tryd.func48, Tryd.ntmps48
  go_wp2_with fail
  rw [← HW1.out]
  clear HW1
  obtain ⟨g, hg⟩ : ∃ g, g = w.heap.size := ⟨_, rfl⟩
  rw [← hg] at q0 q1 q2 q3 hsz ⊢
  have HG : Hid (g = w.heap.size) := hg
  clear hg
  refine (c_quo ha hb').mono ?_
  rintro e w2 ⟨mq, mr, rfl, hq, hr, hqr, hb2⟩
  obtain ⟨qo, ql, qc, rfl⟩ := hq.sl
  obtain ⟨ro, rl, rc, rfl⟩ := hr.sl
  rw [← HEE.out]
  obtain ⟨Q, hQ⟩ : ∃ Q, Q = x.tdiv y := ⟨_, rfl⟩
  obtain ⟨R, hR⟩ : ∃ R, R = rz x y := ⟨_, rfl⟩
  have HQ : Hid (Q = x.tdiv y) := hQ
  have HR : Hid (R = rz x y) := hR
  have sQ : Sz Q 1000000 := by rw [hQ]; exact ha.sz.le (tdiv_le x y)
  have sR : Sz R 1000000 := by rw [hR]; exact ha.sz.le (rz_le x y)
  rw [← hQ, ← hR]
  rw [← hQ] at hq
  rw [← hR] at hr
  clear hQ hR
  have iQ := INum.mk' hq sQ
  have iR := INum.mk' hr sR
  obtain ⟨bq, hbq⟩ : ∃ b, b = decide (Q < 0) := ⟨_, rfl⟩
  obtain ⟨br, hbr⟩ : ∃ b, b = decide (R < 0) := ⟨_, rfl⟩
  have HBQ : Hid (bq = decide (Q < 0)) := hbq
  have HBR : Hid (br = decide (R < 0)) := hbr
  rw [← hbq] at iQ
  rw [← hbr] at iR
  rw [← hbq, ← hbr]
  clear hbq hbr
  replace q1 := q1.below hb2
  replace q2 := q2.below hb2
  replace q3 := q3.below hb2
  replace hb := bstep hb hb2
  replace hb' := hb'.below hb2
  have HSZ : Hid (g + 1 + 1 + 1 < W1.heap.size) := hsz
  have hsz2 := Nat.lt_of_lt_of_le hsz hb2.size
  have HL2 : Hid (W1.heap.size ≤ w2.heap.size) := hb2.size
  clear hsz hb2 ha q0
  obtain ⟨W3, hW3⟩ : ∃ W3, W3 = (w2.alloc (.cells #[.bool bq, .slice qo ql qc] 25)).alloc (.cells #[.bool br, .slice ro rl rc] 25) := ⟨_, rfl⟩
  have p0 : ICell W3 (w2.heap.size) bq (.slice qo ql qc) := by rw [hW3]; exact icell_step (icell_new _ rfl)
  have p1 : ICell W3 (w2.heap.size + 1) br (.slice ro rl rc) := by rw [hW3]; exact icell_new _ (by simp)
  have hb3 : Below w2.heap.size w2 W3 := by rw [hW3]; exact bstep (belowA w2 _) (belowA _ _)
  have hsz3 : w2.heap.size + 1 < W3.heap.size := by rw [hW3]; simp
  replace q1 := q1.below hb3
  replace q2 := q2.below hb3
  replace q3 := q3.below hb3
  replace hb := bstep hb hb3
  replace hb' := hb'.below hb3
  replace iQ := iQ.below hb3
  replace iR := iR.below hb3
  replace hq := hq.below hb3
  replace hr := hr.below hb3
  have HLW0 : Hid (W1.heap.size ≤ W3.heap.size) := Nat.le_trans HL2.out hb3.size
  have HW3 : Hid (W3 = (w2.alloc (.cells #[.bool bq, .slice qo ql qc] 25)).alloc (.cells #[.bool br, .slice ro rl rc] 25)) := hW3
  clear hW3 hb3
  obtain ⟨v, hv⟩ : ∃ v, v = w2.heap.size := ⟨_, rfl⟩
  rw [← hv] at p0 p1 hsz2 hsz3
  have HV : Hid (v = w2.heap.size) := hv
  by_cases hy : y = 0
  · have HZ0 : Hid (E = 11 ∧ Q = FQ ∧ R = FR) := by
      have h0 : rz x y = 0 := by unfold rz; rw [if_pos hy]
      have h1 : ¬ fup x y := by unfold fup; rw [h0]; simp [cmpZ]
      exact ⟨by rw [HEE.out, hy]; rfl, by rw [HQ.out, HFQ.out]; unfold fq; rw [if_neg h1], by rw [HR.out, HFR.out]; unfold fr; rw [if_neg h1]⟩
    obtain ⟨hE0, hQ0, hR0⟩ := HZ0.out
    subst hE0
    subst hQ0
    subst hR0
    clear HZ0 hy
    go_wp2_with fail
    rw [← HW3.out, ← hv]
    clear hv
    go_region
    go_wp2_with fail
    have p0' : ICell W3.drew v bq (.slice qo ql qc) := p0
    have p1' : ICell W3.drew (v + 1) br (.slice ro rl rc) := p1
    have q2' : ICell W3.drew (g + 1 + 1) false (.slice none 0 0) := q2
    have q3' : ICell W3.drew (g + 1 + 1 + 1) false (.slice none 0 0) := q3
    have hq' := hq.same (w' := W3.drew) rfl
    have hr' := hr.same (w' := W3.drew) rfl
    have hbn := bstep hb (below_drew' _)
    generalize W3.drew = W4 at *
    clear p0 p1 q2 q3 hq hr hb
    obtain ⟨e0, e1⟩ := p0'.cells
    obtain ⟨e2, e3⟩ := p1'.cells
    obtain ⟨y20, y21⟩ := q2'.cells
    obtain ⟨y30, y31⟩ := q3'.cells
    have f20 := q2'.thaw 0
    have f21 := q2'.thaw 1
    have f30 := q3'.thaw 0
    have f31 := q3'.thaw 1
    have hne1 : ¬ v = g + 1 + 1 := by omega
    have hne2 : ¬ v = g + 1 + 1 + 1 := by omega
    have hne3 : ¬ v + 1 = g + 1 + 1 := by omega
    have hne4 : ¬ v + 1 = g + 1 + 1 + 1 := by omega
    have HW := icell_two (k1 := bq) (k2 := br) (v1 := .slice qo ql qc) (v2 := .slice ro rl rc) (show ICell W4.drew (g + 1 + 1) false (.slice none 0 0) from q2') (show ICell W4.drew (g + 1 + 1 + 1) false (.slice none 0 0) from q3') (by omega)
    have HW2 : Hid _ := HW
    clear HW
    have HE0 := quo_done (w := w) (wr := W4.drew) (B := W1.heap.size) (q := Q) (r := R) (er := 11) (g := g + 1 + 1) (g2 := g + 1 + 1 + 1) (v0 := .bool bq) (v1 := .slice qo ql qc) (u0 := .bool br) (u1 := .slice ro rl rc) (hq'.same rfl) (hr'.same rfl) hqr (by rw [HG.out]; omega) (by rw [HG.out]; omega) (by have := HSZ.out; omega) HSZ.out (bstep hbn (below_drew' _))
    rw [← HBQ.out, ← HBR.out] at HE0
    have HE : Hid (QEnd w Q R 11 _ _) := HE0
    clear HE0
    refine region_late [(0, fun w' => w'.cell? ⟨v, 0, none⟩ = some (.bool bq) ∧ w'.cell? ⟨v, 1, none⟩ = some (.slice qo ql qc)), (1, fun w' => w'.cell? ⟨v + 1, 0, none⟩ = some (.bool br) ∧ w'.cell? ⟨v + 1, 1, none⟩ = some (.slice ro rl rc)), (2, fun _ => True)] (by kernel_rfl) ?_
    have hHeld : AllL W4.drew [(0, fun w' => w'.cell? ⟨v, 0, none⟩ = some (.bool bq) ∧ w'.cell? ⟨v, 1, none⟩ = some (.slice qo ql qc)), (1, fun w' => w'.cell? ⟨v + 1, 0, none⟩ = some (.bool br) ∧ w'.cell? ⟨v + 1, 1, none⟩ = some (.slice ro rl rc)), (2, fun _ => True)] := ⟨(show ICell W4.drew v bq (.slice qo ql qc) from p0').cells, (show ICell W4.drew (v + 1) br (.slice ro rl rc) from p1').cells, trivial, trivial⟩
    refine late_take 0 (v := .agg #[.bool bq, .slice qo ql qc]) rfl (by kernel_rfl) (List.Mem.head _) (by kernel_rfl) (by kernel_rfl) (by kernel_rfl) (by kernel_rfl) (fun _ _ _ h => h) (Or.inl ⟨by rfl, ?_⟩) hHeld ?_
    · (intro u hu; (try dsimp only at hu); go_split_ands; go_simp)
    (try simp only [Act.put, List.setIfInBounds_toArray, List.set_cons_zero, List.set_cons_succ])
    refine late_take 1 (v := .agg #[.bool br, .slice ro rl rc]) rfl (by kernel_rfl) (List.Mem.tail _ (List.Mem.head _)) (by kernel_rfl) (by kernel_rfl) (by kernel_rfl) (by kernel_rfl) (fun _ _ _ h => h) (Or.inl ⟨by rfl, ?_⟩) hHeld ?_
    · (intro u hu; (try dsimp only at hu); go_split_ands; go_simp)
    (try simp only [Act.put, List.setIfInBounds_toArray, List.set_cons_zero, List.set_cons_succ])
    refine late_take 2 (v := .int .i64 11) rfl (by kernel_rfl) (List.Mem.tail _ (List.Mem.tail _ (List.Mem.head _))) (by kernel_rfl) (by kernel_rfl) (by kernel_rfl) (by kernel_rfl) (fun _ _ _ h => h) (Or.inl ⟨by rfl, ?_⟩) hHeld ?_
    · (intro u hu; (try dsimp only at hu); go_split_ands; go_simp)
    (try simp only [Act.put, List.setIfInBounds_toArray, List.set_cons_zero, List.set_cons_succ])
    refine late_step 3 (by kernel_rfl) rfl (fun K hK => ?_)
    go_simp
    refine hK.out _ _ ⟨Or.inl ⟨3, by kernel_rfl, by kernel_rfl⟩, Or.inr ⟨keepS hne3 hHeld.2.1.1, keepS hne3 hHeld.2.1.2⟩, Or.inr trivial, trivial⟩ ?_
    clear hK K
    (try simp only [Act.put, List.setIfInBounds_toArray, List.set_cons_zero, List.set_cons_succ])
    refine late_step 4 (by kernel_rfl) rfl (fun K hK => ?_)
    go_simp
    refine hK.out _ _ ⟨Or.inl ⟨3, by kernel_rfl, by kernel_rfl⟩, Or.inl ⟨4, by kernel_rfl, by kernel_rfl⟩, Or.inr trivial, trivial⟩ ?_
    clear hK K
    (try simp only [Act.put, List.setIfInBounds_toArray, List.set_cons_zero, List.set_cons_succ])
    refine late_step 5 (by kernel_rfl) rfl (fun K hK => ?_)
    go_simp
    refine hK.out _ _ ⟨Or.inl ⟨3, by kernel_rfl, by kernel_rfl⟩, Or.inl ⟨4, by kernel_rfl, by kernel_rfl⟩, Or.inl ⟨5, by kernel_rfl, by kernel_rfl⟩, trivial⟩ ?_
    clear hK K
    (try simp only [Act.put, List.setIfInBounds_toArray, List.set_cons_zero, List.set_cons_succ])
    refine late_done (by kernel_rfl) ?_ _
    clear e0 e1 e2 e3 y20 y21 y30 y31 f20 f21 f30 f31 hHeld
    go_wp2_with fail
    (try simp only [Exit.inBlock, Exit.then])
    exact bodyPost_ret (results_cct (p := 4) (q := 5) (u := 6) rfl _ _ (g + 1 + 1) (g + 1 + 1 + 1) 25 25 _ _ (0, 0) (0, 0) _ rfl rfl HW2.out.1 HW2.out.2 Tryd.underlying25 rfl (by kernel_rfl) (by kernel_rfl)) rfl HE.out
  · have HZ0 : Hid (E = 0) := by show _ = _; rw [HEE.out]; unfold errZ; rw [if_neg (by omega)]
    have hE0 := HZ0.out
    subst hE0
    clear HZ0
    obtain ⟨s1, hs1⟩ : ∃ s, s = cmpZ R 0 := ⟨_, rfl⟩
    obtain ⟨s2, hs2⟩ : ∃ s, s = cmpZ y 0 := ⟨_, rfl⟩
    obtain ⟨p, hp⟩ : ∃ p, p = s1 * s2 := ⟨_, rfl⟩
    have hpb : -1 ≤ p ∧ p ≤ 1 := by rw [hp, hs1, hs2]; exact cmpZ_mul R y
    have HS1 : Hid (cmpZ R 0 = s1) := hs1.symm
    have HS2 : Hid (cmpZ y 0 = s2) := hs2.symm
    have HP : Hid (fup x y ↔ p < 0) := by show _ ↔ _; unfold fup; rw [← HR.out, hp, hs1, hs2]
    have hw : IntKind.i64.wrap (s1 * s2) = p := by rw [← hp, IntKind.wrap_i64]; omega
    clear hs1 hs2 hp hy
    go_wp2_with fail
    rw [← HW3.out, ← hv]
    clear hv
    obtain ⟨c1, d1⟩ := q1.cells
    obtain ⟨e0, e1⟩ := p0.cells
    obtain ⟨e2, e3⟩ := p1.cells
    by_cases hp0 : p < 0
    · go_region_held3 (fun w' => w'.cell? ⟨g + 1, 0, none⟩ = some (.bool nb) ∧ w'.cell? ⟨g + 1, 1, none⟩ = some (.slice bo bl bc) ∧ w'.cell? ⟨v + 1, 0, none⟩ = some (.bool br) ∧ w'.cell? ⟨v + 1, 1, none⟩ = some (.slice ro rl rc)) (((try dsimp only); go_split_ands; refine ⟨?_, ?_, ?_, ?_⟩ <;> first | exact keepB (by with_reducible assumption) (by with_reducible assumption) | go_keep)) (first
      | (go_at_call_of 12 ro; refine (c_sign (iR.below (below_drew' _))).mono ?_; rw [HS1.out]; rintro e w4 ⟨rfl, hb4⟩)
      | (go_at_call_of 12 bo; refine (c_sign ((hb'.below (below_drew' _)).below hb4)).mono ?_; rw [HS2.out]; rintro e w5 ⟨rfl, hb5⟩))
      go_wp2_with fail
      have hb45 := bstep (below_drew' _) (bstep hb4 hb5)
      replace q1 := q1.below hb45
      replace q2 := q2.below hb45
      replace q3 := q3.below hb45
      replace p0 := p0.below hb45
      replace p1 := p1.below hb45
      replace hb := bstep hb hb45
      replace hq := hq.below hb45
      replace hr := hr.below hb45
      replace iQ := iQ.below hb45
      replace iR := iR.below hb45
      replace hb' := hb'.below hb45
      have HLW : Hid (W1.heap.size ≤ w5.heap.size) := Nat.le_trans HLW0.out hb45.size
      replace hsz3 := Nat.lt_of_lt_of_le hsz3 hb45.size
      clear c1 d1 e0 e1 e2 e3 hb4 hb5 hb45 hw
      have HFQ2 : Hid (Q - 1 = FQ) := by show _ = _; rw [HQ.out, HFQ.out]; unfold fq; rw [if_pos (HP.out.2 hp0)]
      have HFR2 : Hid (R + y = FR) := by show _ = _; rw [HR.out, HFR.out]; unfold fr; rw [if_pos (HP.out.2 hp0)]
      clear hp0
      have HP0 : Hid (ICell w5.drew v bq (.slice qo ql qc) ∧ ICell w5.drew (v + 1) br (.slice ro rl rc) ∧ ICell w5.drew (g + 1) nb (.slice bo bl bc)) := ⟨p0, p1, q1⟩
      refine region_late [(0, fun w' => w'.cell? ⟨v, 0, none⟩ = some (.bool bq) ∧ w'.cell? ⟨v, 1, none⟩ = some (.slice qo ql qc)), (3, fun w' => w'.cell? ⟨v + 1, 0, none⟩ = some (.bool br) ∧ w'.cell? ⟨v + 1, 1, none⟩ = some (.slice ro rl rc)), (4, fun w' => w'.cell? ⟨g + 1, 0, none⟩ = some (.bool nb) ∧ w'.cell? ⟨g + 1, 1, none⟩ = some (.slice bo bl bc))] (by kernel_rfl) ?_
      have hHeld : AllL w5.drew [(0, fun w' => w'.cell? ⟨v, 0, none⟩ = some (.bool bq) ∧ w'.cell? ⟨v, 1, none⟩ = some (.slice qo ql qc)), (3, fun w' => w'.cell? ⟨v + 1, 0, none⟩ = some (.bool br) ∧ w'.cell? ⟨v + 1, 1, none⟩ = some (.slice ro rl rc)), (4, fun w' => w'.cell? ⟨g + 1, 0, none⟩ = some (.bool nb) ∧ w'.cell? ⟨g + 1, 1, none⟩ = some (.slice bo bl bc))] := ⟨HP0.out.1.cells, HP0.out.2.1.cells, HP0.out.2.2.cells, trivial⟩
      refine late_take 0 (v := .agg #[.bool bq, .slice qo ql qc]) rfl (by kernel_rfl) (List.Mem.head _) (by kernel_rfl) (by kernel_rfl) (by kernel_rfl) (by kernel_rfl) (fun _ _ _ h => h) (Or.inl ⟨by rfl, ?_⟩) hHeld ?_
      · (intro u hu; (try dsimp only at hu); go_split_ands; go_simp)
      (try simp only [Act.put, List.setIfInBounds_toArray, List.set_cons_zero, List.set_cons_succ])
      refine late_take 3 (v := .agg #[.bool br, .slice ro rl rc]) rfl (by kernel_rfl) (List.Mem.tail _ (List.Mem.head _)) (by kernel_rfl) (by kernel_rfl) (by kernel_rfl) (by kernel_rfl) (fun _ _ _ h => h) (Or.inl ⟨by rfl, ?_⟩) hHeld ?_
      · (intro u hu; (try dsimp only at hu); go_split_ands; go_simp)
      (try simp only [Act.put, List.setIfInBounds_toArray, List.set_cons_zero, List.set_cons_succ])
      refine late_take 4 (v := .agg #[.bool nb, .slice bo bl bc]) rfl (by kernel_rfl) (List.Mem.tail _ (List.Mem.tail _ (List.Mem.head _))) (by kernel_rfl) (by kernel_rfl) (by kernel_rfl) (by kernel_rfl) (fun _ _ _ h => h) (Or.inl ⟨by rfl, ?_⟩) hHeld ?_
      · (intro u hu; (try dsimp only at hu); go_split_ands; go_simp)
      (try simp only [Act.put, List.setIfInBounds_toArray, List.set_cons_zero, List.set_cons_succ])
      refine late_step 1 (by kernel_rfl) rfl (fun K hK => ?_)
      go_simp
      refine (c_of (by decide) (by decide)).mono ?_
      rintro e w6 ⟨o, rfl, ho, hb6⟩
      have io := ho.num Sz.one (by decide)
      obtain ⟨on, oo, ol, oc, ox, rfl, ou, oll, oz⟩ := io
      have io : INum w6 (.agg #[.bool on, .slice oo ol oc]) 1 := ⟨_, _, _, _, _, rfl, ou, oll, oz⟩
      clear ho ou oll oz
      go_wp2_with fail
      refine hK.out _ _ (AllL.kept ⟨(HP0.out.1.below hb6).cells, (HP0.out.2.1.below hb6).cells, (HP0.out.2.2.below hb6).cells, trivial⟩) ?_
      clear hK K
      (try simp only [Act.put, List.setIfInBounds_toArray, List.set_cons_zero, List.set_cons_succ])
      refine late_step 2 (by kernel_rfl) rfl (fun K hK => ?_)
      go_simp
      refine (c_sub ((iQ.below (below_drew' _)).below hb6) io).mono ?_
      rw [HFQ2.out]
      rintro e w7 ⟨s, rfl, hs, hb7⟩
      obtain ⟨ms, rfl, hms⟩ := hs
      obtain ⟨so, sl, sc, rfl⟩ := hms.sl
      go_wp2_with fail
      refine hK.out _ _ (AllL.kept ⟨((HP0.out.1.below hb6).below hb7).cells, ((HP0.out.2.1.below hb6).below hb7).cells, ((HP0.out.2.2.below hb6).below hb7).cells, trivial⟩) ?_
      clear hK K
      (try simp only [Act.put, List.setIfInBounds_toArray, List.set_cons_zero, List.set_cons_succ])
      refine late_step 5 (by kernel_rfl) rfl (fun K hK => ?_)
      go_simp
      refine (c_add (((iR.below (below_drew' _)).below hb6).below hb7) (((hb'.below (below_drew' _)).below hb6).below hb7)).mono ?_
      rw [HFR2.out]
      rintro e w8 ⟨s, rfl, hs, hb8⟩
      obtain ⟨mt, rfl, hmt⟩ := hs
      obtain ⟨to, tl, tc, rfl⟩ := hmt.sl
      go_wp2_with fail
      refine hK.out _ _ (AllL.kept ⟨(((HP0.out.1.below hb6).below hb7).below hb8).cells, (((HP0.out.2.1.below hb6).below hb7).below hb8).cells, (((HP0.out.2.2.below hb6).below hb7).below hb8).cells, trivial⟩) ?_
      clear hK K
      (try simp only [Act.put, List.setIfInBounds_toArray, List.set_cons_zero, List.set_cons_succ])
      have hb68 := bstep (below_drew' _) (bstep hb6 (bstep hb7 hb8))
      have pp0 := p0.below hb68
      have pp1 := p1.below hb68
      obtain ⟨i0, i1⟩ := pp0.cells
      obtain ⟨i2, i3⟩ := pp1.cells
      have f0 := pp0.thaw 0
      have f1 := pp0.thaw 1
      have f2 := pp1.thaw 0
      have f3 := pp1.thaw 1
      have hap := apart_later hms hmt (Nat.le_refl _)
      obtain ⟨bq2, hbq2⟩ : ∃ b, b = decide (FQ < 0) := ⟨_, rfl⟩
      obtain ⟨br2, hbr2⟩ : ∃ b, b = decide (FR < 0) := ⟨_, rfl⟩
      have HBQ2 : Hid (bq2 = decide (FQ < 0)) := hbq2
      have HBR2 : Hid (br2 = decide (FR < 0)) := hbr2
      rw [← hbq2, ← hbr2]
      clear hbq2 hbr2
      have hle6 : w5.heap.size ≤ w6.heap.size := Nat.le_trans (below_drew' _).size hb6.size
      have hle7 := hb7.size
      have hleW : W1.heap.size ≤ w5.heap.size := HLW.out
      have hv6 : v + 1 < w6.heap.size := by omega
      have hq2 := (own_far (v0 := .bool bq2) (v1 := .slice so sl sc) (u0 := .bool br2) (u1 := .slice to tl tc) (hms.below hb8) (g := v) (g2 := v + 1) (by omega) (by omega)).mono (B' := W1.heap.size) (by omega)
      have hr2 := (own_far (v0 := .bool bq2) (v1 := .slice so sl sc) (u0 := .bool br2) (u1 := .slice to tl tc) hmt (g := v) (g2 := v + 1) (by omega) (by omega)).mono (B' := W1.heap.size) (by omega)
      have cq2 := icell_keep4 (a0 := .bool bq2) (a1 := .slice so sl sc) (b0 := .bool br2) (b1 := .slice to tl tc) (q2.below hb68) (v := v) (v2 := v + 1) (by omega) (by omega)
      have cq3 := icell_keep4 (a0 := .bool bq2) (a1 := .slice so sl sc) (b0 := .bool br2) (b1 := .slice to tl tc) (q3.below hb68) (v := v) (v2 := v + 1) (by omega) (by omega)
      have cpp := icell_two (k1 := bq2) (k2 := br2) (v1 := .slice so sl sc) (v2 := .slice to tl tc) pp0 pp1 (by omega)
      have hbF := below_far (v0 := .bool bq2) (v1 := .slice so sl sc) (u0 := .bool br2) (u1 := .slice to tl tc) (bstep hb hb68) (g := v) (g2 := v + 1) (by rw [HG.out] at hsz2; omega) (by rw [HG.out] at hsz2; omega)
      refine late_step 6 (by kernel_rfl) rfl (fun K hK => ?_)
      go_simp
      refine hK.out _ _ ⟨Or.inl ⟨6, by kernel_rfl, by kernel_rfl⟩, Or.inl ⟨5, by kernel_rfl, by kernel_rfl⟩, Or.inl ⟨5, by kernel_rfl, by kernel_rfl⟩, trivial⟩ ?_
      clear hK K
      (try simp only [Act.put, List.setIfInBounds_toArray, List.set_cons_zero, List.set_cons_succ])
      refine late_step 7 (by kernel_rfl) rfl (fun K hK => ?_)
      go_simp
      refine hK.out _ _ ⟨Or.inl ⟨6, by kernel_rfl, by kernel_rfl⟩, Or.inl ⟨5, by kernel_rfl, by kernel_rfl⟩, Or.inl ⟨5, by kernel_rfl, by kernel_rfl⟩, trivial⟩ ?_
      clear hK K
      (try simp only [Act.put, List.setIfInBounds_toArray, List.set_cons_zero, List.set_cons_succ])
      refine late_done (by kernel_rfl) ?_ _
      obtain ⟨WF, hWF⟩ : ∃ WF, WF = ((((w8.setCell ⟨v, 0, none⟩ (.bool bq2)).setCell ⟨v, 1, none⟩ (.slice so sl sc)).setCell ⟨v + 1, 0, none⟩ (.bool br2)).setCell ⟨v + 1, 1, none⟩ (.slice to tl tc)) := ⟨_, rfl⟩
      rw [← hWF] at hq2 hr2 cq2 cq3 cpp hbF ⊢
      obtain ⟨cp0, cp1⟩ := cpp
      clear hWF i0 i1 i2 i3 f0 f1 f2 f3 pp0 pp1 hHeld hms hmt hb6 hb7 hb8 hb68 p0 p1 q1 q2 q3 hq hr io iQ iR hb' hb hqr
      go_wp2_with fail
      obtain ⟨e0, e1⟩ := cp0.cells
      obtain ⟨e2, e3⟩ := cp1.cells
      obtain ⟨y20, y21⟩ := cq2.cells
      obtain ⟨y30, y31⟩ := cq3.cells
      have f20 := cq2.thaw 0
      have f21 := cq2.thaw 1
      have f30 := cq3.thaw 0
      have f31 := cq3.thaw 1
      have hne1 : ¬ v = g + 1 + 1 := by omega
      have hne2 : ¬ v = g + 1 + 1 + 1 := by omega
      have hne3 : ¬ v + 1 = g + 1 + 1 := by omega
      have hne4 : ¬ v + 1 = g + 1 + 1 + 1 := by omega
      have HW := icell_two (k1 := bq2) (k2 := br2) (v1 := .slice so sl sc) (v2 := .slice to tl tc) (show ICell WF.drew (g + 1 + 1) false (.slice none 0 0) from cq2) (show ICell WF.drew (g + 1 + 1 + 1) false (.slice none 0 0) from cq3) (by omega)
      have HW2 : Hid _ := HW
      clear HW
      have HE0 := quo_done (w := w) (wr := WF.drew) (B := W1.heap.size) (q := FQ) (r := FR) (er := 0) (g := g + 1 + 1) (g2 := g + 1 + 1 + 1) (v0 := .bool bq2) (v1 := .slice so sl sc) (u0 := .bool br2) (u1 := .slice to tl tc) (hq2.same rfl) (hr2.same rfl) hap (by rw [HG.out]; omega) (by rw [HG.out]; omega) (by have := HSZ.out; omega) HSZ.out (bstep hbF (below_drew' _))
      rw [← HBQ2.out, ← HBR2.out] at HE0
      have HE : Hid (QEnd w FQ FR 0 _ _) := HE0
      clear HE0
      refine region_late [(0, fun w' => w'.cell? ⟨v, 0, none⟩ = some (.bool bq2) ∧ w'.cell? ⟨v, 1, none⟩ = some (.slice so sl sc)), (1, fun w' => w'.cell? ⟨v + 1, 0, none⟩ = some (.bool br2) ∧ w'.cell? ⟨v + 1, 1, none⟩ = some (.slice to tl tc)), (2, fun _ => True)] (by kernel_rfl) ?_
      have hHeld : AllL WF.drew [(0, fun w' => w'.cell? ⟨v, 0, none⟩ = some (.bool bq2) ∧ w'.cell? ⟨v, 1, none⟩ = some (.slice so sl sc)), (1, fun w' => w'.cell? ⟨v + 1, 0, none⟩ = some (.bool br2) ∧ w'.cell? ⟨v + 1, 1, none⟩ = some (.slice to tl tc)), (2, fun _ => True)] := ⟨(show ICell WF.drew v bq2 (.slice so sl sc) from cp0).cells, (show ICell WF.drew (v + 1) br2 (.slice to tl tc) from cp1).cells, trivial, trivial⟩
      refine late_take 0 (v := .agg #[.bool bq2, .slice so sl sc]) rfl (by kernel_rfl) (List.Mem.head _) (by kernel_rfl) (by kernel_rfl) (by kernel_rfl) (by kernel_rfl) (fun _ _ _ h => h) (Or.inl ⟨by rfl, ?_⟩) hHeld ?_
      · (intro u hu; (try dsimp only at hu); go_split_ands; go_simp)
      (try simp only [Act.put, List.setIfInBounds_toArray, List.set_cons_zero, List.set_cons_succ])
      refine late_take 1 (v := .agg #[.bool br2, .slice to tl tc]) rfl (by kernel_rfl) (List.Mem.tail _ (List.Mem.head _)) (by kernel_rfl) (by kernel_rfl) (by kernel_rfl) (by kernel_rfl) (fun _ _ _ h => h) (Or.inl ⟨by rfl, ?_⟩) hHeld ?_
      · (intro u hu; (try dsimp only at hu); go_split_ands; go_simp)
      (try simp only [Act.put, List.setIfInBounds_toArray, List.set_cons_zero, List.set_cons_succ])
      refine late_take 2 (v := .int .i64 0) rfl (by kernel_rfl) (List.Mem.tail _ (List.Mem.tail _ (List.Mem.head _))) (by kernel_rfl) (by kernel_rfl) (by kernel_rfl) (by kernel_rfl) (fun _ _ _ h => h) (Or.inl ⟨by rfl, ?_⟩) hHeld ?_
      · (intro u hu; (try dsimp only at hu); go_split_ands; go_simp)
      (try simp only [Act.put, List.setIfInBounds_toArray, List.set_cons_zero, List.set_cons_succ])
      refine late_step 3 (by kernel_rfl) rfl (fun K hK => ?_)
      go_simp
      refine hK.out _ _ ⟨Or.inl ⟨3, by kernel_rfl, by kernel_rfl⟩, Or.inr ⟨keepS hne3 hHeld.2.1.1, keepS hne3 hHeld.2.1.2⟩, Or.inr trivial, trivial⟩ ?_
      clear hK K
      (try simp only [Act.put, List.setIfInBounds_toArray, List.set_cons_zero, List.set_cons_succ])
      refine late_step 4 (by kernel_rfl) rfl (fun K hK => ?_)
      go_simp
      refine hK.out _ _ ⟨Or.inl ⟨3, by kernel_rfl, by kernel_rfl⟩, Or.inl ⟨4, by kernel_rfl, by kernel_rfl⟩, Or.inr trivial, trivial⟩ ?_
      clear hK K
      (try simp only [Act.put, List.setIfInBounds_toArray, List.set_cons_zero, List.set_cons_succ])
      refine late_step 5 (by kernel_rfl) rfl (fun K hK => ?_)
      go_simp
      refine hK.out _ _ ⟨Or.inl ⟨3, by kernel_rfl, by kernel_rfl⟩, Or.inl ⟨4, by kernel_rfl, by kernel_rfl⟩, Or.inl ⟨5, by kernel_rfl, by kernel_rfl⟩, trivial⟩ ?_
      clear hK K
      (try simp only [Act.put, List.setIfInBounds_toArray, List.set_cons_zero, List.set_cons_succ])
      refine late_done (by kernel_rfl) ?_ _
      clear e0 e1 e2 e3 y20 y21 y30 y31 f20 f21 f30 f31 hHeld
      go_wp2_with fail
      (try simp only [Exit.inBlock, Exit.then])
      exact bodyPost_ret (results_cct (p := 4) (q := 5) (u := 6) rfl _ _ (g + 1 + 1) (g + 1 + 1 + 1) 25 25 _ _ (0, 0) (0, 0) _ rfl rfl HW2.out.1 HW2.out.2 Tryd.underlying25 rfl (by kernel_rfl) (by kernel_rfl)) rfl HE.out
    · go_region_held3 (fun w' => w'.cell? ⟨g + 1, 0, none⟩ = some (.bool nb) ∧ w'.cell? ⟨g + 1, 1, none⟩ = some (.slice bo bl bc) ∧ w'.cell? ⟨v + 1, 0, none⟩ = some (.bool br) ∧ w'.cell? ⟨v + 1, 1, none⟩ = some (.slice ro rl rc)) (((try dsimp only); go_split_ands; refine ⟨?_, ?_, ?_, ?_⟩ <;> first | exact keepB (by with_reducible assumption) (by with_reducible assumption) | go_keep)) (first
      | (go_at_call_of 12 ro; refine (c_sign (iR.below (below_drew' _))).mono ?_; rw [HS1.out]; rintro e w4 ⟨rfl, hb4⟩)
      | (go_at_call_of 12 bo; refine (c_sign ((hb'.below (below_drew' _)).below hb4)).mono ?_; rw [HS2.out]; rintro e w5 ⟨rfl, hb5⟩))
      go_wp2_with fail
      have hb45 := bstep (below_drew' _) (bstep hb4 hb5)
      replace q1 := q1.below hb45
      replace q2 := q2.below hb45
      replace q3 := q3.below hb45
      replace p0 := p0.below hb45
      replace p1 := p1.below hb45
      replace hb := bstep hb hb45
      replace hq := hq.below hb45
      replace hr := hr.below hb45
      replace iQ := iQ.below hb45
      replace iR := iR.below hb45
      replace hb' := hb'.below hb45
      have HLW : Hid (W1.heap.size ≤ w5.heap.size) := Nat.le_trans HLW0.out hb45.size
      replace hsz3 := Nat.lt_of_lt_of_le hsz3 hb45.size
      clear c1 d1 e0 e1 e2 e3 hb4 hb5 hb45 hw
      have HFQ2 : Hid (Q = FQ) := by show _ = _; rw [HQ.out, HFQ.out]; unfold fq; rw [if_neg (fun h => by have := HP.out.1 h; omega)]
      have HFR2 : Hid (R = FR) := by show _ = _; rw [HR.out, HFR.out]; unfold fr; rw [if_neg (fun h => by have := HP.out.1 h; omega)]
      obtain hQ0 := HFQ2.out
      obtain hR0 := HFR2.out
      subst hQ0
      subst hR0
      clear hp0
      obtain ⟨e0, e1⟩ := p0.cells
      obtain ⟨e2, e3⟩ := p1.cells
      obtain ⟨y20, y21⟩ := q2.cells
      obtain ⟨y30, y31⟩ := q3.cells
      have f20 := q2.thaw 0
      have f21 := q2.thaw 1
      have f30 := q3.thaw 0
      have f31 := q3.thaw 1
      have hne1 : ¬ v = g + 1 + 1 := by omega
      have hne2 : ¬ v = g + 1 + 1 + 1 := by omega
      have hne3 : ¬ v + 1 = g + 1 + 1 := by omega
      have hne4 : ¬ v + 1 = g + 1 + 1 + 1 := by omega
      have HW := icell_two (k1 := bq) (k2 := br) (v1 := .slice qo ql qc) (v2 := .slice ro rl rc) (show ICell w5.drew (g + 1 + 1) false (.slice none 0 0) from q2) (show ICell w5.drew (g + 1 + 1 + 1) false (.slice none 0 0) from q3) (by omega)
      have HW2 : Hid _ := HW
      clear HW
      have HE0 := quo_done (w := w) (wr := w5.drew) (B := W1.heap.size) (q := Q) (r := R) (er := 0) (g := g + 1 + 1) (g2 := g + 1 + 1 + 1) (v0 := .bool bq) (v1 := .slice qo ql qc) (u0 := .bool br) (u1 := .slice ro rl rc) (hq.same rfl) (hr.same rfl) hqr (by rw [HG.out]; omega) (by rw [HG.out]; omega) (by have := HSZ.out; omega) HSZ.out (bstep hb (below_drew' _))
      rw [← HBQ.out, ← HBR.out] at HE0
      have HE : Hid (QEnd w Q R 0 _ _) := HE0
      clear HE0
      refine region_late [(0, fun w' => w'.cell? ⟨v, 0, none⟩ = some (.bool bq) ∧ w'.cell? ⟨v, 1, none⟩ = some (.slice qo ql qc)), (1, fun w' => w'.cell? ⟨v + 1, 0, none⟩ = some (.bool br) ∧ w'.cell? ⟨v + 1, 1, none⟩ = some (.slice ro rl rc)), (2, fun _ => True)] (by kernel_rfl) ?_
      have hHeld : AllL w5.drew [(0, fun w' => w'.cell? ⟨v, 0, none⟩ = some (.bool bq) ∧ w'.cell? ⟨v, 1, none⟩ = some (.slice qo ql qc)), (1, fun w' => w'.cell? ⟨v + 1, 0, none⟩ = some (.bool br) ∧ w'.cell? ⟨v + 1, 1, none⟩ = some (.slice ro rl rc)), (2, fun _ => True)] := ⟨(show ICell w5.drew v bq (.slice qo ql qc) from p0).cells, (show ICell w5.drew (v + 1) br (.slice ro rl rc) from p1).cells, trivial, trivial⟩
      refine late_take 0 (v := .agg #[.bool bq, .slice qo ql qc]) rfl (by kernel_rfl) (List.Mem.head _) (by kernel_rfl) (by kernel_rfl) (by kernel_rfl) (by kernel_rfl) (fun _ _ _ h => h) (Or.inl ⟨by rfl, ?_⟩) hHeld ?_
      · (intro u hu; (try dsimp only at hu); go_split_ands; go_simp)
      (try simp only [Act.put, List.setIfInBounds_toArray, List.set_cons_zero, List.set_cons_succ])
      refine late_take 1 (v := .agg #[.bool br, .slice ro rl rc]) rfl (by kernel_rfl) (List.Mem.tail _ (List.Mem.head _)) (by kernel_rfl) (by kernel_rfl) (by kernel_rfl) (by kernel_rfl) (fun _ _ _ h => h) (Or.inl ⟨by rfl, ?_⟩) hHeld ?_
      · (intro u hu; (try dsimp only at hu); go_split_ands; go_simp)
      (try simp only [Act.put, List.setIfInBounds_toArray, List.set_cons_zero, List.set_cons_succ])
      refine late_take 2 (v := .int .i64 0) rfl (by kernel_rfl) (List.Mem.tail _ (List.Mem.tail _ (List.Mem.head _))) (by kernel_rfl) (by kernel_rfl) (by kernel_rfl) (by kernel_rfl) (fun _ _ _ h => h) (Or.inl ⟨by rfl, ?_⟩) hHeld ?_
      · (intro u hu; (try dsimp only at hu); go_split_ands; go_simp)
      (try simp only [Act.put, List.setIfInBounds_toArray, List.set_cons_zero, List.set_cons_succ])
      refine late_step 3 (by kernel_rfl) rfl (fun K hK => ?_)
      go_simp
      refine hK.out _ _ ⟨Or.inl ⟨3, by kernel_rfl, by kernel_rfl⟩, Or.inr ⟨keepS hne3 hHeld.2.1.1, keepS hne3 hHeld.2.1.2⟩, Or.inr trivial, trivial⟩ ?_
      clear hK K
      (try simp only [Act.put, List.setIfInBounds_toArray, List.set_cons_zero, List.set_cons_succ])
      refine late_step 4 (by kernel_rfl) rfl (fun K hK => ?_)
      go_simp
      refine hK.out _ _ ⟨Or.inl ⟨3, by kernel_rfl, by kernel_rfl⟩, Or.inl ⟨4, by kernel_rfl, by kernel_rfl⟩, Or.inr trivial, trivial⟩ ?_
      clear hK K
      (try simp only [Act.put, List.setIfInBounds_toArray, List.set_cons_zero, List.set_cons_succ])
      refine late_step 5 (by kernel_rfl) rfl (fun K hK => ?_)
      go_simp
      refine hK.out _ _ ⟨Or.inl ⟨3, by kernel_rfl, by kernel_rfl⟩, Or.inl ⟨4, by kernel_rfl, by kernel_rfl⟩, Or.inl ⟨5, by kernel_rfl, by kernel_rfl⟩, trivial⟩ ?_
      clear hK K
      (try simp only [Act.put, List.setIfInBounds_toArray, List.set_cons_zero, List.set_cons_succ])
      refine late_done (by kernel_rfl) ?_ _
      clear e0 e1 e2 e3 y20 y21 y30 y31 f20 f21 f30 f31 hHeld
      go_wp2_with fail
      (try simp only [Exit.inBlock, Exit.then])
      exact bodyPost_ret (results_cct (p := 4) (q := 5) (u := 6) rfl _ _ (g + 1 + 1) (g + 1 + 1 + 1) 25 25 _ _ (0, 0) (0, 0) _ rfl rfl HW2.out.1 HW2.out.2 Tryd.underlying25 rfl (by kernel_rfl) (by kernel_rfl)) rfl HE.out
end Go.Proofs.YtcbfhakolfcmgaaDoor

namespace Go.Proofs.YtcbfhakolfcmgaaDoor
open Go.RowKit
attribute [local go_sem ↓] Go.wp_at_zero Go.wp_at_succ

/-- The six cells of a row. -/
def RCell (w : World) (g : Nat) (n0 : Bool) (m0 : Value) (n1 : Bool) (m1 : Value) (n2 : Bool) (m2 : Value) : Prop := w.heap[g]? = some (.cells #[.bool n0, m0, .bool n1, m1, .bool n2, m2] 93 (0, 0))
section
variable {w w' : World} {g : Nat} {n0 n1 n2 : Bool} {m0 m1 m2 : Value}
theorem RCell.cells (h : RCell w g n0 m0 n1 m1 n2 m2) : w.cell? ⟨g, 0, none⟩ = some (.bool n0) ∧ w.cell? ⟨g, 1, none⟩ = some m0 ∧ w.cell? ⟨g, 2, none⟩ = some (.bool n1) ∧ w.cell? ⟨g, 3, none⟩ = some m1 ∧ w.cell? ⟨g, 4, none⟩ = some (.bool n2) ∧ w.cell? ⟨g, 5, none⟩ = some m2 := by
  refine ⟨?_, ?_, ?_, ?_, ?_, ?_⟩ <;> (rw [cell_of_row w g _ _ _ _ h]; rfl)
theorem RCell.thaw (h : RCell w g n0 m0 n1 m1 n2 m2) (k : Nat) : w.frozen? ⟨g, k, none⟩ = false := frozen_of_row w g k _ _ h
theorem RCell.below (h : RCell w g n0 m0 n1 m1 n2 m2) (hb : Below w.heap.size w w') : RCell w' g n0 m0 n1 m1 n2 m2 := by
  unfold RCell; rw [hb.block _ (Array.getElem?_eq_some_iff.1 h).1]; exact h
theorem RCell.other (h : RCell w g n0 m0 n1 m1 n2 m2) {g2 : Nat} (hne : g ≠ g2) (k : Nat) (v : Value) : RCell (w.setCell ⟨g2, k, none⟩ v) g n0 m0 n1 m1 n2 m2 := by
  unfold RCell
  rw [heap_setCell_other]
  · exact h
  · exact hne
theorem RCell.write (h : RCell w g n0 m0 n1 m1 n2 m2) (k0 : Bool) (u0 : Value) (k1 : Bool) (u1 : Value) (k2 : Bool) (u2 : Value) :
    RCell ((((((w.setCell ⟨g, 0, none⟩ (.bool k0)).setCell ⟨g, 1, none⟩ u0).setCell ⟨g, 2, none⟩ (.bool k1)).setCell ⟨g, 3, none⟩ u1).setCell ⟨g, 4, none⟩ (.bool k2)).setCell ⟨g, 5, none⟩ u2) g k0 u0 k1 u1 k2 u2 := by
  unfold RCell
  have h1 := heap_setCell_same w g 0 _ _ (.bool k0) h
  have h2 := heap_setCell_same _ g 1 _ _ u0 h1
  have h3 := heap_setCell_same _ g 2 _ _ (.bool k1) h2
  have h4 := heap_setCell_same _ g 3 _ _ u1 h3
  have h5 := heap_setCell_same _ g 4 _ _ (.bool k2) h4
  have h6 := heap_setCell_same _ g 5 _ _ u2 h5
  rw [h6]
  rfl
theorem rcell_step {o : Obj} (h : RCell w g n0 m0 n1 m1 n2 m2) : RCell (w.alloc o) g n0 m0 n1 m1 n2 m2 := h.below (belowA _ _)
theorem rcell_new (w : World) {k : Nat} (hk : w.heap.size = k) : RCell (w.alloc (.cells #[.bool n0, m0, .bool n1, m1, .bool n2, m2] 93)) k n0 m0 n1 m1 n2 m2 := by
  subst hk; exact heap_alloc_new w _
end
theorem keepS6 {w : World} {g b o : Nat} {v0 v1 v2 v3 v4 v5 x : Value} (hne : ¬ b = g) (h : w.cell? ⟨b, o, none⟩ = some x) : ((((((w.setCell ⟨g, 0, none⟩ v0).setCell ⟨g, 1, none⟩ v1).setCell ⟨g, 2, none⟩ v2).setCell ⟨g, 3, none⟩ v3).setCell ⟨g, 4, none⟩ v4).setCell ⟨g, 5, none⟩ v5).cell? ⟨b, o, none⟩ = some x :=
  keepS hne (keepS hne (keepS hne h))
/-- Behind the six stores of a row all else is as it was. -/
theorem row_below {w wr : World} {g : Nat} {v0 v1 v2 v3 v4 v5 : Value} (hb : Below w.heap.size w wr) (hg : w.heap.size ≤ g) :
    Below w.heap.size w ((((((wr.setCell ⟨g, 0, none⟩ v0).setCell ⟨g, 1, none⟩ v1).setCell ⟨g, 2, none⟩ v2).setCell ⟨g, 3, none⟩ v3).setCell ⟨g, 4, none⟩ v4).setCell ⟨g, 5, none⟩ v5) :=
  (((((hb.setCell (p := ⟨g, 0, none⟩) hg _).setCell (p := ⟨g, 1, none⟩) hg _).setCell (p := ⟨g, 2, none⟩) hg _).setCell (p := ⟨g, 3, none⟩) hg _).setCell (p := ⟨g, 4, none⟩) hg _).setCell (p := ⟨g, 5, none⟩) hg _
/-- A number in a row of the call's own that lies elsewhere. -/
def Away (w : World) (g : Nat) (v : Value) (z : Int) : Prop := ∃ neg m xs, v = .agg #[.bool neg, m] ∧ Own (g + 1) 64 w m xs ∧ xs.length ≤ 1000000 ∧ zv neg (val xs) = z
theorem Away.num {w : World} {g : Nat} {v : Value} {z : Int} (h : Away w g v z) : INum w v z := by
  obtain ⟨neg, m, xs, rfl, ho, hl, hz⟩ := h
  obtain ⟨ao, n, cap, rfl⟩ := ho.sl
  exact ⟨_, _, _, _, _, rfl, ho.num, hl, hz⟩
theorem Away.mono {w : World} {g g2 : Nat} {v : Value} {z : Int} (h : Away w g v z) (hg : g2 ≤ g) : Away w g2 v z := by
  obtain ⟨neg, m, xs, e, ho, hl, hz⟩ := h
  exact ⟨neg, m, xs, e, ho.mono (by omega), hl, hz⟩
theorem Away.below {w w' : World} {g : Nat} {v : Value} {z : Int} (h : Away w g v z) (hb : Below w.heap.size w w') : Away w' g v z := by
  obtain ⟨neg, m, xs, e, ho, hl, hz⟩ := h
  exact ⟨neg, m, xs, e, ho.below hb, hl, hz⟩
theorem Away.set {w : World} {g g2 : Nat} {v : Value} {z : Int} (h : Away w g v z) (hg : g2 ≤ g) (k : Nat) (u : Value) : Away (w.setCell ⟨g2, k, none⟩ u) g v z := by
  obtain ⟨neg, m, xs, e, ho, hl, hz⟩ := h
  refine ⟨neg, m, xs, e, ho.other u ?_, hl, hz⟩
  cases hm : m.ownBlock with
  | none => exact Or.inl rfl
  | some j =>
    right
    intro e
    rw [Option.some.injEq] at e
    have := (ho.block j hm).1
    omega
theorem Away.set6 {w : World} {g g2 : Nat} {v : Value} {z : Int} (h : Away w g v z) (hg : g2 ≤ g) {v0 v1 v2 v3 v4 v5 : Value} :
    Away ((((((w.setCell ⟨g2, 0, none⟩ v0).setCell ⟨g2, 1, none⟩ v1).setCell ⟨g2, 2, none⟩ v2).setCell ⟨g2, 3, none⟩ v3).setCell ⟨g2, 4, none⟩ v4).setCell ⟨g2, 5, none⟩ v5) g v z :=
  (((((h.set hg 0 _).set hg 1 _).set hg 2 _).set hg 3 _).set hg 4 _).set hg 5 _
theorem IOwn.away {B g : Nat} {w : World} {v : Value} {z : Int} (h : IOwn B w v z) (hg : g < B) {L : Nat} (hs : Sz z L) (hL : L ≤ 1000000) : Away w g v z := by
  obtain ⟨m, rfl, ho⟩ := h
  exact ⟨_, m, _, rfl, ho.mono (by omega), Nat.le_trans hs.len hL, by rw [val_lim, zv_self]⟩
/-- A row of three numbers, each away from a block. -/
def Row3 (w : World) (g : Nat) (n0 : Bool) (m0 : Value) (n1 : Bool) (m1 : Value) (n2 : Bool) (m2 : Value) (r s t : Int) : Prop := Away w g (.agg #[.bool n0, m0]) r ∧ Away w g (.agg #[.bool n1, m1]) s ∧ Away w g (.agg #[.bool n2, m2]) t
theorem Row3.below {w w' : World} {g : Nat} {n0 : Bool} {m0 : Value} {n1 : Bool} {m1 : Value} {n2 : Bool} {m2 : Value} {r s t : Int} (h : Row3 w g n0 m0 n1 m1 n2 m2 r s t) (hb : Below w.heap.size w w') : Row3 w' g n0 m0 n1 m1 n2 m2 r s t := ⟨h.1.below hb, h.2.1.below hb, h.2.2.below hb⟩
/-- What a step leaves. -/
def StepEnd (w : World) (g : Nat) (r s t : Int) (e : Ending) (w' : World) : Prop := ∃ n0 m0 n1 m1 n2 m2, e = .returned (.agg #[.bool n0, m0, .bool n1, m1, .bool n2, m2]) ∧ Row3 w' g n0 m0 n1 m1 n2 m2 r s t ∧ Below w.heap.size w w'
theorem Away.sl {w : World} {g : Nat} {n : Bool} {m : Value} {z : Int} (h : Away w g (.agg #[.bool n, m]) z) : ∃ ao k cap, m = .slice ao k cap := by
  obtain ⟨neg, m', xs, e, ho, _, _⟩ := h
  simp only [Value.agg.injEq, Array.mk.injEq, List.cons.injEq, Value.bool.injEq, and_true] at e
  obtain ⟨_, rfl⟩ := e
  exact ho.sl

set_option maxRecDepth 100000 in
set_option maxHeartbeats 6400000 in
theorem c_step {na0 nb0 : Bool} {ao0 bo0 : Option Addr} {al0 ac0 bl0 bc0 : Nat} {na1 nb1 : Bool} {ao1 bo1 : Option Addr} {al1 ac1 bl1 bc1 : Nat} {na2 nb2 : Bool} {ao2 bo2 : Option Addr} {al2 ac2 bl2 bc2 : Nat} {r0 s0 t0 r1 s1 t1 : Int} {w : World} {G : Nat} (hG : G < w.heap.size) (ia0 : INum w (.agg #[.bool na0, .slice ao0 al0 ac0]) r0) (ia1 : INum w (.agg #[.bool na1, .slice ao1 al1 ac1]) s0) (ia2 : INum w (.agg #[.bool na2, .slice ao2 al2 ac2]) t0) (ib0 : INum w (.agg #[.bool nb0, .slice bo0 bl0 bc0]) r1) (ib1 : INum w (.agg #[.bool nb1, .slice bo1 bl1 bc1]) s1) (ib2 : INum w (.agg #[.bool nb2, .slice bo2 bl2 bc2]) t1) {L : Nat} (hL : L ≤ 1000000) (zs : Sz (r0.tdiv r1 * s1) L) (zt : Sz (r0.tdiv r1 * t1) L) (zs2 : Sz (s0 - r0.tdiv r1 * s1) L) (zt2 : Sz (t0 - r0.tdiv r1 * t1) L) :
    Calls Tryd.prog 79 #[.agg #[.bool na0, .slice ao0 al0 ac0, .bool na1, .slice ao1 al1 ac1, .bool na2, .slice ao2 al2 ac2], .agg #[.bool nb0, .slice bo0 bl0 bc0, .bool nb1, .slice bo1 bl1 bc1, .bool nb2, .slice bo2 bl2 bc2]] w fun e w' => StepEnd w G (rz r0 r1) (s0 - r0.tdiv r1 * s1) (t0 - r0.tdiv r1 * t1) e w' := by
  obtain ⟨W1, hW1⟩ : ∃ W1, W1 = ((w.alloc (.cells #[.bool na0, .slice ao0 al0 ac0, .bool na1, .slice ao1 al1 ac1, .bool na2, .slice ao2 al2 ac2] 93)).alloc (.cells #[.bool nb0, .slice bo0 bl0 bc0, .bool nb1, .slice bo1 bl1 bc1, .bool nb2, .slice bo2 bl2 bc2] 93)).alloc (.cells #[.bool false, .slice none 0 0, .bool false, .slice none 0 0, .bool false, .slice none 0 0] 93) := ⟨_, rfl⟩
  have q0 : RCell W1 (w.heap.size) na0 (.slice ao0 al0 ac0) na1 (.slice ao1 al1 ac1) na2 (.slice ao2 al2 ac2) := by rw [hW1]; exact rcell_step (rcell_step (rcell_new _ (by simp)))
  have q1 : RCell W1 (w.heap.size + 1) nb0 (.slice bo0 bl0 bc0) nb1 (.slice bo1 bl1 bc1) nb2 (.slice bo2 bl2 bc2) := by rw [hW1]; exact rcell_step (rcell_new _ (by simp))
  have q2 : RCell W1 (w.heap.size + 1 + 1) false (.slice none 0 0) false (.slice none 0 0) false (.slice none 0 0) := by rw [hW1]; exact rcell_new _ (by simp)
  have hb : Below w.heap.size w W1 := by rw [hW1]; exact bstep (bstep (belowA w _) (belowA _ _)) (belowA _ _)
  have hsz : w.heap.size + 1 + 1 < W1.heap.size := by rw [hW1]; simp
  replace ia0 := ia0.below hb
  replace ia1 := ia1.below hb
  replace ia2 := ia2.below hb
  replace ib0 := ib0.below hb
  replace ib1 := ib1.below hb
  replace ib2 := ib2.below hb
  have HW1 : Hid (W1 = ((w.alloc (.cells #[.bool na0, .slice ao0 al0 ac0, .bool na1, .slice ao1 al1 ac1, .bool na2, .slice ao2 al2 ac2] 93)).alloc (.cells #[.bool nb0, .slice bo0 bl0 bc0, .bool nb1, .slice bo1 bl1 bc1, .bool nb2, .slice bo2 bl2 bc2] 93)).alloc (.cells #[.bool false, .slice none 0 0, .bool false, .slice none 0 0, .bool false, .slice none 0 0] 93)) := hW1
  clear hW1
  obtain ⟨X, hX⟩ : ∃ X, X = s0 - r0.tdiv r1 * s1 := ⟨_, rfl⟩
  obtain ⟨Y, hY⟩ : ∃ Y, Y = t0 - r0.tdiv r1 * t1 := ⟨_, rfl⟩
  have HX : Hid (s0 - r0.tdiv r1 * s1 = X) := hX.symm
  have HY : Hid (t0 - r0.tdiv r1 * t1 = Y) := hY.symm
  rw [← hX] at zs2 ⊢
  rw [← hY] at zt2 ⊢
  clear hX hY
  obtain ⟨R, hR⟩ : ∃ R, R = rz r0 r1 := ⟨_, rfl⟩
  have HR : Hid (R = rz r0 r1) := hR
  have zR : Sz R 1000000 := by rw [hR]; exact ia0.sz.le (rz_le _ _)
  have zQ : Sz (r0.tdiv r1) 1000000 := ia0.sz.le (tdiv_le _ _)
  rw [← hR]
  clear hR
  obtain ⟨g, hg⟩ : ∃ g, g = w.heap.size := ⟨_, rfl⟩
  rw [← hg] at q0 q1 q2 hsz
  have HG : Hid (g = w.heap.size) := hg
  obtain ⟨a0, a1, a2, a3, a4, a5⟩ := q0.cells
  obtain ⟨b0, b1, b2, b3, b4, b5⟩ := q1.cells
  go_enter Tryd.func79, Tryd.ntmps79
  go_wp2_with fail
  rw [← HW1.out, ← hg]
  clear HW1 hg
  refine (c_quo ia0 ib0).mono ?_
  rintro e w2 ⟨mq, mr, rfl, hq, hr, hqr, hb2⟩
  obtain ⟨qo, ql, qc, rfl⟩ := hq.sl
  obtain ⟨ro, rl, rc, rfl⟩ := hr.sl
  rw [← HR.out]
  rw [← HR.out] at hr
  have iQ := INum.mk' hq zQ
  have aR := (IOwn.away ⟨_, rfl, hr⟩ (g := g + 1 + 1) hsz zR (Nat.le_refl _))
  obtain ⟨bq, hbq⟩ : ∃ b, b = decide (r0.tdiv r1 < 0) := ⟨_, rfl⟩
  obtain ⟨br, hbr⟩ : ∃ b, b = decide (R < 0) := ⟨_, rfl⟩
  rw [← hbq] at iQ
  rw [← hbr] at aR
  rw [← hbq, ← hbr]
  clear hbq hbr hq hr hqr zQ
  replace q0 := q0.below hb2
  replace q1 := q1.below hb2
  replace q2 := q2.below hb2
  replace hb := bstep hb hb2
  replace ia1 := ia1.below hb2
  replace ia2 := ia2.below hb2
  replace ib1 := ib1.below hb2
  replace ib2 := ib2.below hb2
  have hsz2 := Nat.lt_of_lt_of_le hsz hb2.size
  clear ia0 ib0 hb2 a0 a1 a2 a3 a4 a5 b0 b1 b2 b3 b4 b5
  obtain ⟨W3, hW3⟩ : ∃ W3, W3 = (w2.alloc (.cells #[.bool bq, .slice qo ql qc] 25)).alloc (.cells #[.bool br, .slice ro rl rc] 25) := ⟨_, rfl⟩
  have p0 : ICell W3 (w2.heap.size) bq (.slice qo ql qc) := by rw [hW3]; exact icell_step (icell_new _ rfl)
  have p1 : ICell W3 (w2.heap.size + 1) br (.slice ro rl rc) := by rw [hW3]; exact icell_new _ (by simp)
  have hb3 : Below w2.heap.size w2 W3 := by rw [hW3]; exact bstep (belowA w2 _) (belowA _ _)
  replace q0 := q0.below hb3
  replace q1 := q1.below hb3
  replace q2 := q2.below hb3
  replace hb := bstep hb hb3
  replace iQ := iQ.below hb3
  replace aR := aR.below hb3
  replace ia1 := ia1.below hb3
  replace ia2 := ia2.below hb3
  replace ib1 := ib1.below hb3
  replace ib2 := ib2.below hb3
  have hsz3 := Nat.lt_of_lt_of_le hsz2 hb3.size
  have HW3 : Hid (W3 = (w2.alloc (.cells #[.bool bq, .slice qo ql qc] 25)).alloc (.cells #[.bool br, .slice ro rl rc] 25)) := hW3
  clear hW3 hb3
  obtain ⟨v, hv⟩ : ∃ v, v = w2.heap.size := ⟨_, rfl⟩
  rw [← hv] at p0 p1 hsz2
  go_wp2_with fail
  rw [← HW3.out, ← hv]
  clear HW3 hv
  obtain ⟨c0, c1⟩ := p1.cells
  obtain ⟨c2, c3⟩ := p0.cells
  obtain ⟨_, _, a2, a3, a4, a5⟩ := q0.cells
  obtain ⟨_, _, b2, b3, b4, b5⟩ := q1.cells
  have HQ2 : Hid (RCell W3.drew (g + 1 + 1) false (.slice none 0 0) false (.slice none 0 0) false (.slice none 0 0)) := q2
  have HIS : Hid (INum W3.drew (.agg #[.bool bq, .slice qo ql qc]) (r0.tdiv r1) ∧ Away W3.drew (g + 1 + 1) (.agg #[.bool br, .slice ro rl rc]) R) := ⟨iQ.below (below_drew' _), aR.below (below_drew' _)⟩
  have HIA : Hid (INum W3.drew (.agg #[.bool na1, .slice ao1 al1 ac1]) s0 ∧ INum W3.drew (.agg #[.bool na2, .slice ao2 al2 ac2]) t0 ∧ INum W3.drew (.agg #[.bool nb1, .slice bo1 bl1 bc1]) s1 ∧ INum W3.drew (.agg #[.bool nb2, .slice bo2 bl2 bc2]) t1) := ⟨ia1.below (below_drew' _), ia2.below (below_drew' _), ib1.below (below_drew' _), ib2.below (below_drew' _)⟩
  have hn1 : ¬ v = g + 1 + 1 := by omega
  have hn2 : ¬ v + 1 = g + 1 + 1 := by omega
  have hn3 : ¬ g = g + 1 + 1 := by omega
  have hn4 : ¬ g + 1 = g + 1 + 1 := by omega
  clear p0 p1 q0 q1 q2 iQ aR ia1 ia2 ib1 ib2
  refine region_late [(0, fun w' => w'.cell? ⟨v + 1, 0, none⟩ = some (.bool br) ∧ w'.cell? ⟨v + 1, 1, none⟩ = some (.slice ro rl rc)), (2, fun w' => w'.cell? ⟨g, 2, none⟩ = some (.bool na1) ∧ w'.cell? ⟨g, 3, none⟩ = some (.slice ao1 al1 ac1)), (3, fun w' => w'.cell? ⟨v, 0, none⟩ = some (.bool bq) ∧ w'.cell? ⟨v, 1, none⟩ = some (.slice qo ql qc)), (5, fun w' => w'.cell? ⟨g + 1, 2, none⟩ = some (.bool nb1) ∧ w'.cell? ⟨g + 1, 3, none⟩ = some (.slice bo1 bl1 bc1)), (8, fun w' => w'.cell? ⟨g, 4, none⟩ = some (.bool na2) ∧ w'.cell? ⟨g, 5, none⟩ = some (.slice ao2 al2 ac2)), (9, fun w' => w'.cell? ⟨v, 0, none⟩ = some (.bool bq) ∧ w'.cell? ⟨v, 1, none⟩ = some (.slice qo ql qc)), (11, fun w' => w'.cell? ⟨g + 1, 4, none⟩ = some (.bool nb2) ∧ w'.cell? ⟨g + 1, 5, none⟩ = some (.slice bo2 bl2 bc2))] (by kernel_rfl) ?_
  have hHeld : AllL W3.drew [(0, fun w' => w'.cell? ⟨v + 1, 0, none⟩ = some (.bool br) ∧ w'.cell? ⟨v + 1, 1, none⟩ = some (.slice ro rl rc)), (2, fun w' => w'.cell? ⟨g, 2, none⟩ = some (.bool na1) ∧ w'.cell? ⟨g, 3, none⟩ = some (.slice ao1 al1 ac1)), (3, fun w' => w'.cell? ⟨v, 0, none⟩ = some (.bool bq) ∧ w'.cell? ⟨v, 1, none⟩ = some (.slice qo ql qc)), (5, fun w' => w'.cell? ⟨g + 1, 2, none⟩ = some (.bool nb1) ∧ w'.cell? ⟨g + 1, 3, none⟩ = some (.slice bo1 bl1 bc1)), (8, fun w' => w'.cell? ⟨g, 4, none⟩ = some (.bool na2) ∧ w'.cell? ⟨g, 5, none⟩ = some (.slice ao2 al2 ac2)), (9, fun w' => w'.cell? ⟨v, 0, none⟩ = some (.bool bq) ∧ w'.cell? ⟨v, 1, none⟩ = some (.slice qo ql qc)), (11, fun w' => w'.cell? ⟨g + 1, 4, none⟩ = some (.bool nb2) ∧ w'.cell? ⟨g + 1, 5, none⟩ = some (.slice bo2 bl2 bc2))] := ⟨⟨c0, c1⟩, ⟨a2, a3⟩, ⟨c2, c3⟩, ⟨b2, b3⟩, ⟨a4, a5⟩, ⟨c2, c3⟩, ⟨b4, b5⟩, trivial⟩
  refine late_take 0 (v := .agg #[.bool br, .slice ro rl rc]) rfl (by kernel_rfl) (List.Mem.head _) (by kernel_rfl) (by kernel_rfl) (by kernel_rfl) (by kernel_rfl) (fun _ _ _ h => h) (Or.inl ⟨by rfl, ?_⟩) hHeld ?_
  · (intro u hu; (try dsimp only at hu); go_split_ands; go_simp)
  (try simp only [Act.put, List.setIfInBounds_toArray, List.set_cons_zero, List.set_cons_succ])
  refine late_free 1 (v := .pointer (some ⟨g, 2, none⟩)) rfl (by kernel_rfl) (by kernel_rfl) (by kernel_rfl) (by kernel_rfl) (by kernel_rfl) (by kernel_rfl) (fun _ _ _ h => h) (Or.inl ⟨by rfl, ?_⟩) hHeld ?_
  · (intro u _; go_simp)
  (try simp only [Act.put, List.setIfInBounds_toArray, List.set_cons_zero, List.set_cons_succ])
  refine late_take 2 (v := .agg #[.bool na1, .slice ao1 al1 ac1]) rfl (by kernel_rfl) (List.Mem.tail _ (List.Mem.head _)) (by kernel_rfl) (by kernel_rfl) (by kernel_rfl) (by kernel_rfl) (fun _ _ _ h => h) (Or.inl ⟨by rfl, ?_⟩) hHeld ?_
  · (intro u hu; (try dsimp only at hu); go_split_ands; go_simp)
  (try simp only [Act.put, List.setIfInBounds_toArray, List.set_cons_zero, List.set_cons_succ])
  refine late_take 3 (v := .agg #[.bool bq, .slice qo ql qc]) rfl (by kernel_rfl) (List.Mem.tail _ (List.Mem.tail _ (List.Mem.head _))) (by kernel_rfl) (by kernel_rfl) (by kernel_rfl) (by kernel_rfl) (fun _ _ _ h => h) (Or.inl ⟨by rfl, ?_⟩) hHeld ?_
  · (intro u hu; (try dsimp only at hu); go_split_ands; go_simp)
  (try simp only [Act.put, List.setIfInBounds_toArray, List.set_cons_zero, List.set_cons_succ])
  refine late_free 4 (v := .pointer (some ⟨g + 1, 2, none⟩)) rfl (by kernel_rfl) (by kernel_rfl) (by kernel_rfl) (by kernel_rfl) (by kernel_rfl) (by kernel_rfl) (fun _ _ _ h => h) (Or.inl ⟨by rfl, ?_⟩) hHeld ?_
  · (intro u _; go_simp)
  (try simp only [Act.put, List.setIfInBounds_toArray, List.set_cons_zero, List.set_cons_succ])
  refine late_take 5 (v := .agg #[.bool nb1, .slice bo1 bl1 bc1]) rfl (by kernel_rfl) (List.Mem.tail _ (List.Mem.tail _ (List.Mem.tail _ (List.Mem.head _)))) (by kernel_rfl) (by kernel_rfl) (by kernel_rfl) (by kernel_rfl) (fun _ _ _ h => h) (Or.inl ⟨by rfl, ?_⟩) hHeld ?_
  · (intro u hu; (try dsimp only at hu); go_split_ands; go_simp)
  (try simp only [Act.put, List.setIfInBounds_toArray, List.set_cons_zero, List.set_cons_succ])
  refine late_free 7 (v := .pointer (some ⟨g, 4, none⟩)) rfl (by kernel_rfl) (by kernel_rfl) (by kernel_rfl) (by kernel_rfl) (by kernel_rfl) (by kernel_rfl) (fun _ _ _ h => h) (Or.inl ⟨by rfl, ?_⟩) hHeld ?_
  · (intro u _; go_simp)
  (try simp only [Act.put, List.setIfInBounds_toArray, List.set_cons_zero, List.set_cons_succ])
  refine late_take 8 (v := .agg #[.bool na2, .slice ao2 al2 ac2]) rfl (by kernel_rfl) (List.Mem.tail _ (List.Mem.tail _ (List.Mem.tail _ (List.Mem.tail _ (List.Mem.head _))))) (by kernel_rfl) (by kernel_rfl) (by kernel_rfl) (by kernel_rfl) (fun _ _ _ h => h) (Or.inl ⟨by rfl, ?_⟩) hHeld ?_
  · (intro u hu; (try dsimp only at hu); go_split_ands; go_simp)
  (try simp only [Act.put, List.setIfInBounds_toArray, List.set_cons_zero, List.set_cons_succ])
  refine late_take 9 (v := .agg #[.bool bq, .slice qo ql qc]) rfl (by kernel_rfl) (List.Mem.tail _ (List.Mem.tail _ (List.Mem.tail _ (List.Mem.tail _ (List.Mem.tail _ (List.Mem.head _)))))) (by kernel_rfl) (by kernel_rfl) (by kernel_rfl) (by kernel_rfl) (fun _ _ _ h => h) (Or.inl ⟨by rfl, ?_⟩) hHeld ?_
  · (intro u hu; (try dsimp only at hu); go_split_ands; go_simp)
  (try simp only [Act.put, List.setIfInBounds_toArray, List.set_cons_zero, List.set_cons_succ])
  refine late_free 10 (v := .pointer (some ⟨g + 1, 4, none⟩)) rfl (by kernel_rfl) (by kernel_rfl) (by kernel_rfl) (by kernel_rfl) (by kernel_rfl) (by kernel_rfl) (fun _ _ _ h => h) (Or.inl ⟨by rfl, ?_⟩) hHeld ?_
  · (intro u _; go_simp)
  (try simp only [Act.put, List.setIfInBounds_toArray, List.set_cons_zero, List.set_cons_succ])
  refine late_take 11 (v := .agg #[.bool nb2, .slice bo2 bl2 bc2]) rfl (by kernel_rfl) (List.Mem.tail _ (List.Mem.tail _ (List.Mem.tail _ (List.Mem.tail _ (List.Mem.tail _ (List.Mem.tail _ (List.Mem.head _))))))) (by kernel_rfl) (by kernel_rfl) (by kernel_rfl) (by kernel_rfl) (fun _ _ _ h => h) (Or.inl ⟨by rfl, ?_⟩) hHeld ?_
  · (intro u hu; (try dsimp only at hu); go_split_ands; go_simp)
  (try simp only [Act.put, List.setIfInBounds_toArray, List.set_cons_zero, List.set_cons_succ])
  refine late_step 6 (by kernel_rfl) rfl (fun K hK => ?_)
  go_simp
  refine (c_less HIA.out.1 HIS.out.1 HIA.out.2.2.1 zs hL).mono ?_
  rw [HX.out]
  rintro e w4 ⟨v4, rfl, hv4, hb4⟩
  have aX := hv4.away (g := g + 1 + 1) hsz3 zs2 hL
  obtain ⟨m4, rfl, hm4⟩ := hv4
  obtain ⟨xo, xl, xc, rfl⟩ := hm4.sl
  clear hm4
  go_wp2_with fail
  refine hK.out _ _ (AllL.kept ⟨⟨keepB (bstep (below_drew' _) hb4) c0, keepB (bstep (below_drew' _) hb4) c1⟩, ⟨keepB (bstep (below_drew' _) hb4) a2, keepB (bstep (below_drew' _) hb4) a3⟩, ⟨keepB (bstep (below_drew' _) hb4) c2, keepB (bstep (below_drew' _) hb4) c3⟩, ⟨keepB (bstep (below_drew' _) hb4) b2, keepB (bstep (below_drew' _) hb4) b3⟩, ⟨keepB (bstep (below_drew' _) hb4) a4, keepB (bstep (below_drew' _) hb4) a5⟩, ⟨keepB (bstep (below_drew' _) hb4) c2, keepB (bstep (below_drew' _) hb4) c3⟩, ⟨keepB (bstep (below_drew' _) hb4) b4, keepB (bstep (below_drew' _) hb4) b5⟩, trivial⟩) ?_
  clear hK K
  (try simp only [Act.put, List.setIfInBounds_toArray, List.set_cons_zero, List.set_cons_succ])
  refine late_step 12 (by kernel_rfl) rfl (fun K hK => ?_)
  go_simp
  refine (c_less (HIA.out.2.1.below hb4) (HIS.out.1.below hb4) (HIA.out.2.2.2.below hb4) zt hL).mono ?_
  rw [HY.out]
  rintro e w5 ⟨v5, rfl, hv5, hb5⟩
  have aY := hv5.away (g := g + 1 + 1) (Nat.lt_of_lt_of_le hsz3 hb4.size) zt2 hL
  obtain ⟨m5, rfl, hm5⟩ := hv5
  obtain ⟨yo, yl, yc, rfl⟩ := hm5.sl
  clear hm5
  have q2 := (HQ2.out.below hb4).below hb5
  obtain ⟨e0, e1, e2, e3, e4, e5⟩ := q2.cells
  have f0 := q2.thaw 0
  have f1 := q2.thaw 1
  have f2 := q2.thaw 2
  have f3 := q2.thaw 3
  have f4 := q2.thaw 4
  have f5 := q2.thaw 5
  go_wp2_with fail
  refine hK.out _ _ (AllL.kept ⟨⟨keepB (bstep (below_drew' _) (bstep hb4 hb5)) c0, keepB (bstep (below_drew' _) (bstep hb4 hb5)) c1⟩, ⟨keepB (bstep (below_drew' _) (bstep hb4 hb5)) a2, keepB (bstep (below_drew' _) (bstep hb4 hb5)) a3⟩, ⟨keepB (bstep (below_drew' _) (bstep hb4 hb5)) c2, keepB (bstep (below_drew' _) (bstep hb4 hb5)) c3⟩, ⟨keepB (bstep (below_drew' _) (bstep hb4 hb5)) b2, keepB (bstep (below_drew' _) (bstep hb4 hb5)) b3⟩, ⟨keepB (bstep (below_drew' _) (bstep hb4 hb5)) a4, keepB (bstep (below_drew' _) (bstep hb4 hb5)) a5⟩, ⟨keepB (bstep (below_drew' _) (bstep hb4 hb5)) c2, keepB (bstep (below_drew' _) (bstep hb4 hb5)) c3⟩, ⟨keepB (bstep (below_drew' _) (bstep hb4 hb5)) b4, keepB (bstep (below_drew' _) (bstep hb4 hb5)) b5⟩, trivial⟩) ?_
  clear hK K
  (try simp only [Act.put, List.setIfInBounds_toArray, List.set_cons_zero, List.set_cons_succ])
  refine late_step 13 (by kernel_rfl) rfl (fun K hK => ?_)
  go_simp
  refine hK.out _ _ ⟨Or.inl ⟨13, by kernel_rfl, by kernel_rfl⟩, Or.inl ⟨6, by kernel_rfl, by kernel_rfl⟩, Or.inl ⟨6, by kernel_rfl, by kernel_rfl⟩, Or.inl ⟨6, by kernel_rfl, by kernel_rfl⟩, Or.inl ⟨12, by kernel_rfl, by kernel_rfl⟩, Or.inl ⟨12, by kernel_rfl, by kernel_rfl⟩, Or.inl ⟨12, by kernel_rfl, by kernel_rfl⟩, trivial⟩ ?_
  clear hK K
  (try simp only [Act.put, List.setIfInBounds_toArray, List.set_cons_zero, List.set_cons_succ])
  refine late_step 14 (by kernel_rfl) rfl (fun K hK => ?_)
  go_simp
  refine hK.out _ _ ⟨Or.inl ⟨13, by kernel_rfl, by kernel_rfl⟩, Or.inl ⟨6, by kernel_rfl, by kernel_rfl⟩, Or.inl ⟨6, by kernel_rfl, by kernel_rfl⟩, Or.inl ⟨6, by kernel_rfl, by kernel_rfl⟩, Or.inl ⟨12, by kernel_rfl, by kernel_rfl⟩, Or.inl ⟨12, by kernel_rfl, by kernel_rfl⟩, Or.inl ⟨12, by kernel_rfl, by kernel_rfl⟩, trivial⟩ ?_
  clear hK K
  (try simp only [Act.put, List.setIfInBounds_toArray, List.set_cons_zero, List.set_cons_succ])
  refine late_done (by kernel_rfl) ?_ _
  have aR := (HIS.out.2.below hb4).below hb5
  replace aX := aX.below hb5
  have HEE : Hid (StepEnd w G R X Y (.returned (.agg #[.bool br, .slice ro rl rc, .bool (decide (X < 0)), .slice xo xl xc, .bool (decide (Y < 0)), .slice yo yl yc])) ((((((w5.setCell ⟨g + 1 + 1, 0, none⟩ (.bool br)).setCell ⟨g + 1 + 1, 1, none⟩ (.slice ro rl rc)).setCell ⟨g + 1 + 1, 2, none⟩ (.bool (decide (X < 0)))).setCell ⟨g + 1 + 1, 3, none⟩ (.slice xo xl xc)).setCell ⟨g + 1 + 1, 4, none⟩ (.bool (decide (Y < 0)))).setCell ⟨g + 1 + 1, 5, none⟩ (.slice yo yl yc))) := ⟨_, _, _, _, _, _, rfl, ⟨(aR.set6 (Nat.le_refl _)).mono (by rw [HG.out]; omega), (aX.set6 (Nat.le_refl _)).mono (by rw [HG.out]; omega), (aY.set6 (Nat.le_refl _)).mono (by rw [HG.out]; omega)⟩, row_below (bstep (bstep (bstep hb (below_drew' _)) hb4) hb5) (by rw [HG.out]; omega)⟩
  have HW : Hid (RCell _ (g + 1 + 1) br (.slice ro rl rc) (decide (X < 0)) (.slice xo xl xc) (decide (Y < 0)) (.slice yo yl yc)) := q2.write _ _ _ _ _ _
  clear aR aX aY hb4 hb5 hb q2 e0 e1 e2 e3 e4 e5 f0 f1 f2 f3 f4 f5 c0 c1 c2 c3 a2 a3 a4 a5 b2 b3 b4 b5
  go_wp2_with fail
  (try simp only [Exit.inBlock, Exit.then])
  exact bodyPost_ret (results_cell_row rfl _ _ (g + 1 + 1) 93 _ (0, 0) _ rfl HW.out Tryd.underlying93 rfl (by kernel_rfl)) rfl HEE.out
end Go.Proofs.YtcbfhakolfcmgaaDoor

namespace Go.Proofs.YtcbfhakolfcmgaaDoor
open Go.RowKit
attribute [local go_sem ↓] Go.wp_at_zero Go.wp_at_succ

/-- A number's limbs lie in no block ahead of B. -/
def Fr (v : Value) (B : Nat) : Prop := ∀ n b off s l c, v = .agg #[.bool n, .slice (some ⟨b, off, s⟩) l c] → B ≤ b
theorem Fr.of_own {B C : Nat} {w : World} {n : Bool} {m : Value} {xs : List Nat} (h : Own C 64 w m xs) (hB : B ≤ C) : Fr (.agg #[.bool n, m]) B := by
  intro n' b off s l c e
  simp only [Value.agg.injEq, Array.mk.injEq, List.cons.injEq, Value.bool.injEq, and_true] at e
  have hk : m.ownBlock = some b := by rw [e.2]; rfl
  have := (h.block b hk).1
  omega
theorem iend2 {w wr : World} {g : Nat} {v0 v1 : Value} (hb : Below w.heap.size w wr) (hg : w.heap.size ≤ g) : Below w.heap.size w ((wr.setCell ⟨g, 0, none⟩ v0).setCell ⟨g, 1, none⟩ v1) := (hb.setCell (p := ⟨g, 0, none⟩) hg _).setCell (p := ⟨g, 1, none⟩) hg _
set_option maxRecDepth 100000 in
set_option maxHeartbeats 6400000 in
theorem c_onSideN {a b : Value} {x y : Int} {w : World} (ha : INum w a x) (hb' : INum w b y) {B : Nat} (hF : Fr b B) (hB : B ≤ w.heap.size) :
    Calls Tryd.prog 80 #[a, b] w fun e w' => ∃ v, e = .returned v ∧ INum w' v (if x < 0 then -y else y) ∧ Fr v B ∧ Below w.heap.size w w' := by
  obtain ⟨Z, hZ⟩ : ∃ Z, Z = if x < 0 then -y else y := ⟨_, rfl⟩
  have HZ : Hid (Z = if x < 0 then -y else y) := hZ
  rw [← hZ]
  clear hZ
  obtain ⟨na, ao, al, ac, xa, rfl, ua, la, za⟩ := ha
  have ha : INum w (.agg #[.bool na, .slice ao al ac]) x := ⟨_, _, _, _, _, rfl, ua, la, za⟩
  clear ua la za
  obtain ⟨nb, bo, bl, bc, xb, rfl, ub, lb, zb⟩ := hb'
  have hb' : INum w (.agg #[.bool nb, .slice bo bl bc]) y := ⟨_, _, _, _, _, rfl, ub, lb, zb⟩
  clear ub lb zb
  obtain ⟨W1, hW1⟩ : ∃ W1, W1 = ((w.alloc (.cells #[.bool na, .slice ao al ac] 25)).alloc (.cells #[.bool nb, .slice bo bl bc] 25)).alloc (.cells #[.bool false, .slice none 0 0] 25) := ⟨_, rfl⟩
  have q0 : ICell W1 (w.heap.size) na (.slice ao al ac) := by rw [hW1]; exact (icell_step (icell_step (icell_new _ (by simp))))
  have q1 : ICell W1 (w.heap.size + 1) nb (.slice bo bl bc) := by rw [hW1]; exact (icell_step (icell_new _ (by simp)))
  have q2 : ICell W1 (w.heap.size + 1 + 1) false (.slice none 0 0) := by rw [hW1]; exact (icell_new _ (by simp))
  have hb : Below w.heap.size w W1 := by rw [hW1]; exact bstep (bstep (belowA w _) (belowA _ _)) (belowA _ _)
  have hsz : w.heap.size + 1 + 1 < W1.heap.size := by rw [hW1]; simp
  replace ha := ha.below hb
  have hb2' := hb'.below hb
  have HW1 : Hid (W1 = ((w.alloc (.cells #[.bool na, .slice ao al ac] 25)).alloc (.cells #[.bool nb, .slice bo bl bc] 25)).alloc (.cells #[.bool false, .slice none 0 0] 25)) := hW1
  clear hW1
  go_enter Tryd.func80, Tryd.ntmps80
  go_wp2_with fail
  rw [← HW1.out]
  clear HW1
  obtain ⟨g, hg⟩ : ∃ g, g = w.heap.size := ⟨_, rfl⟩
  rw [← hg] at q0 q1 q2 hsz ⊢
  have HG : Hid (g = w.heap.size) := hg
  clear hg
  refine (c_below ha).mono ?_
  rintro e w2 ⟨rfl, hb2⟩
  replace hb2' := hb2'.below hb2
  replace q1 := q1.below hb2
  replace q2 := q2.below hb2
  replace hb := bstep hb hb2
  have hsz2 := Nat.lt_of_lt_of_le hsz hb2.size
  clear q0 hb2 ha
  obtain ⟨c1, d1⟩ := q1.cells
  by_cases hx : x < 0
  · rw [decide_eq_true hx]
    have HY : Hid (-y = Z) := by show _ = _; rw [HZ.out, if_pos hx]
    clear hx
    go_wp2_with fail
    have sy := hb2'.sz.neg
    rw [HY.out] at sy
    refine (c_neg hb2').mono ?_
    rintro e w3 ⟨v, rfl, hv, hb3⟩
    rw [HY.out] at hv
    replace q2 := q2.below hb3
    replace hb := bstep hb hb3
    obtain ⟨m, rfl, hm⟩ := hv
    obtain ⟨mo, ml, mc, rfl⟩ := hm.sl
    have hE := (int_done (w := w) (g := g + 1 + 1) (z := Z) rfl (by rw [HG.out]; omega) hm hsz2 hb).i
    obtain ⟨v2, he2, ho2, hbb2⟩ := hE
    have HE2 : Hid (∃ v, (Ending.returned (.agg #[.bool (decide (Z < 0)), .slice mo ml mc])) = .returned v ∧ INum ((w3.setCell ⟨g + 1 + 1, 0, none⟩ (.bool (decide (Z < 0)))).setCell ⟨g + 1 + 1, 1, none⟩ (.slice mo ml mc)) v Z ∧ Fr v B ∧ Below w.heap.size w ((w3.setCell ⟨g + 1 + 1, 0, none⟩ (.bool (decide (Z < 0)))).setCell ⟨g + 1 + 1, 1, none⟩ (.slice mo ml mc))) := ⟨v2, he2, ho2.num sy (Nat.le_refl _), by obtain ⟨m9, rfl, ho9⟩ := ho2; exact Fr.of_own ho9 hB, hbb2⟩
    have HW : Hid (ICell _ (g + 1 + 1) (decide (Z < 0)) (.slice mo ml mc)) := q2.write _ _
    obtain ⟨y0, y1⟩ := q2.cells
    have f0 := q2.thaw 0
    have f1 := q2.thaw 1
    clear q1 q2 hb hsz hsz2 hm hb3 he2 ho2 hbb2 c1 d1
    go_wp2_with fail
    (try simp only [Exit.inBlock, Exit.then])
    exact bodyPost_ret (results_cell_row rfl _ _ (g + 1 + 1) 25 _ (0, 0) _ rfl HW.out Tryd.underlying25 rfl (by kernel_rfl)) rfl HE2.out
  · rw [decide_eq_false hx]
    have HY : Hid (y = Z) := by show _ = _; rw [HZ.out, if_neg hx]
    clear hx
    have HW : Hid (ICell ((w2.setCell ⟨g + 1 + 1, 0, none⟩ (.bool nb)).setCell ⟨g + 1 + 1, 1, none⟩ (.slice bo bl bc)) (g + 1 + 1) nb (.slice bo bl bc)) := q2.write _ _
    have hbF := iend2 (v0 := .bool nb) (v1 := .slice bo bl bc) hb (g := g + 1 + 1) (by rw [HG.out]; omega)
    have HE2 : Hid (∃ v, (Ending.returned (.agg #[.bool nb, .slice bo bl bc])) = .returned v ∧ INum ((w2.setCell ⟨g + 1 + 1, 0, none⟩ (.bool nb)).setCell ⟨g + 1 + 1, 1, none⟩ (.slice bo bl bc)) v Z ∧ Fr v B ∧ Below w.heap.size w ((w2.setCell ⟨g + 1 + 1, 0, none⟩ (.bool nb)).setCell ⟨g + 1 + 1, 1, none⟩ (.slice bo bl bc))) := ⟨_, rfl, by rw [← HY.out]; exact hb'.below hbF, hF, hbF⟩
    obtain ⟨y0, y1⟩ := q2.cells
    have f0 := q2.thaw 0
    have f1 := q2.thaw 1
    clear q1 q2 hb hsz hsz2 hb' hb2' hbF
    go_wp2_with fail
    (try simp only [Exit.inBlock, Exit.then])
    exact bodyPost_ret (results_cell_row rfl _ _ (g + 1 + 1) 25 _ (0, 0) _ rfl HW.out Tryd.underlying25 rfl (by kernel_rfl)) rfl HE2.out

theorem rz_lt {x y : Int} (h : y ≠ 0) : (rz x y).natAbs < y.natAbs := by
  unfold rz; rw [if_neg h, Int.natAbs_tmod]; exact Nat.mod_lt _ (by omega)
/-- Euclid's rows: the last that does not begin with 0. -/
def bz (r0 s0 t0 r1 s1 t1 : Int) : Int × Int × Int :=
  if _h : r1 = 0 then (r0, s0, t0) else bz r1 s1 t1 (rz r0 r1) (s0 - r0.tdiv r1 * s1) (t0 - r0.tdiv r1 * t1)
termination_by r1.natAbs
decreasing_by exact rz_lt (by assumption)
theorem bz_stop {r0 s0 t0 r1 s1 t1 : Int} (h : r1 = 0) : bz r0 s0 t0 r1 s1 t1 = (r0, s0, t0) := by rw [bz]; rw [dif_pos h]
theorem bz_go {r0 s0 t0 r1 s1 t1 : Int} (h : r1 ≠ 0) : bz r0 s0 t0 r1 s1 t1 = bz r1 s1 t1 (rz r0 r1) (s0 - r0.tdiv r1 * s1) (t0 - r0.tdiv r1 * t1) := by rw [bz]; rw [dif_neg h]
/-- A number's limbs lie in neither of two blocks. -/
def OffR (m : Value) (p q : Nat) : Prop := ∀ b off s l c, m = .slice (some ⟨b, off, s⟩) l c → b ≠ p ∧ b ≠ q
theorem Num.off {w : World} {m : Value} {xs : List Nat} {p q g k : Nat} {v : Value} (h : Num w m xs) (ho : OffR m p q) (hg : g = p ∨ g = q) : Num (w.setCell ⟨g, k, none⟩ v) m xs := by
  obtain ⟨h0, ao, cap, rfl, h1, h2, h3, h4⟩ := h
  refine ⟨h0, ao, cap, rfl, h1, h2, h3, fun j hj => ?_⟩
  obtain ⟨b, off, e, hc⟩ := h4 j hj
  subst e
  have hn := ho b off none _ _ rfl
  refine ⟨b, off, rfl, ?_⟩
  rw [← hc]
  apply World.cell?_of_block
  rw [heap_setCell_other]
  show b ≠ g
  rcases hg with e | e <;> rw [e]
  · exact hn.1
  · exact hn.2
theorem INum.off {w : World} {n : Bool} {m : Value} {z : Int} {p q g k : Nat} {v : Value} (h : INum w (.agg #[.bool n, m]) z) (ho : OffR m p q) (hg : g = p ∨ g = q) : INum (w.setCell ⟨g, k, none⟩ v) (.agg #[.bool n, m]) z := by
  obtain ⟨neg, ao, l, cap, xs, e, h1, h2, h3⟩ := h
  simp only [Value.agg.injEq, Array.mk.injEq, List.cons.injEq, Value.bool.injEq, and_true] at e
  obtain ⟨rfl, rfl⟩ := e
  exact ⟨_, _, _, _, _, rfl, h1.off ho hg, h2, h3⟩
theorem OffR.gen {B p q : Nat} {w : World} {m : Value} {xs : List Nat} (h : Own B 64 w m xs) (hp : p < B ∨ w.heap.size ≤ p) (hq : q < B ∨ w.heap.size ≤ q) : OffR m p q := by
  intro b off s l c e
  have hk : m.ownBlock = some b := by rw [e]; rfl
  have := h.block b hk
  omega
theorem INum.fr {w : World} {n : Bool} {m : Value} {z : Int} {B g k : Nat} {v : Value} (h : INum w (.agg #[.bool n, m]) z) (hF : Fr (.agg #[.bool n, m]) B) (hg : g < B) : INum (w.setCell ⟨g, k, none⟩ v) (.agg #[.bool n, m]) z := by
  refine h.off (p := g) (q := g) ?_ (Or.inl rfl)
  intro b off s l c e
  have := hF n b off s l c (by rw [e])
  omega
theorem OffR.later {B p q : Nat} {w : World} {m : Value} {xs : List Nat} (h : Own B 64 w m xs) (hp : p < B) (hq : q < B) : OffR m p q := by
  intro b off s l c e
  have hk : m.ownBlock = some b := by rw [e]; rfl
  have := (h.block b hk).1
  omega
theorem OffR.sooner {B p q : Nat} {w : World} {m : Value} {xs : List Nat} (h : Own B 64 w m xs) (hp : w.heap.size ≤ p) (hq : w.heap.size ≤ q) : OffR m p q := by
  intro b off s l c e
  have hk : m.ownBlock = some b := by rw [e]; rfl
  have := (h.block b hk).2
  omega
end Go.Proofs.YtcbfhakolfcmgaaDoor

namespace Go.Proofs.YtcbfhakolfcmgaaDoor
open Go.RowKit
attribute [local go_sem ↓] Go.wp_at_zero Go.wp_at_succ

theorem results_tcc {P : Program} {fn : Func} {p q u : Tmp} {ty : TypeId} (h : fn.results = #[.tmp u, .cell p ty, .cell q ty]) (tmps : Array Value) (w : World) (g g2 : Nat) (t t2 : TypeId) (cs cs2 : Array Value) (fr fr2 : Nat × Nat) (d : TypeDesc)
    (hp : tmps.getD p undef = .pointer (some ⟨g, 0, none⟩)) (hq : tmps.getD q undef = .pointer (some ⟨g2, 0, none⟩)) (hg : w.heap[g]? = some (.cells cs t fr)) (hg2 : w.heap[g2]? = some (.cells cs2 t2 fr2))
    (hu : P.underlying ty = some d) (hd : (match d with | .struct _ | .array _ _ => true | _ => false) = true) (hi : (P.info? ty).map (·.size) = some cs.size) (hi2 : (P.info? ty).map (·.size) = some cs2.size) :
    (results fn tmps).run P w = .ok (.tuple #[tmps.getD u undef, .agg cs, .agg cs2]) w := by
  have hp' : tmps[p]?.getD undef = .pointer (some ⟨g, 0, none⟩) := by simpa using hp
  have hq' : tmps[q]?.getD undef = .pointer (some ⟨g2, 0, none⟩) := by simpa using hq
  simp [results, h, hp', hq', asAddr, run_loadVar_row w g t ty cs fr d hg hu hd hi, run_loadVar_row w g2 t2 ty cs2 fr2 d hg2 hu hd hi2]
section
variable {w : World} {p q : Nat} {v0 v1 v2 v3 v4 v5 u0 u1 u2 u3 u4 u5 : Value}

theorem INum.off12 {n : Bool} {m : Value} {z : Int} (h : INum w (.agg #[.bool n, m]) z) (ho : OffR m p q) : INum ((((((((((((w.setCell ⟨p, 0, none⟩ v0).setCell ⟨p, 1, none⟩ v1).setCell ⟨p, 2, none⟩ v2).setCell ⟨p, 3, none⟩ v3).setCell ⟨p, 4, none⟩ v4).setCell ⟨p, 5, none⟩ v5).setCell ⟨q, 0, none⟩ u0).setCell ⟨q, 1, none⟩ u1).setCell ⟨q, 2, none⟩ u2).setCell ⟨q, 3, none⟩ u3).setCell ⟨q, 4, none⟩ u4).setCell ⟨q, 5, none⟩ u5) (.agg #[.bool n, m]) z :=
  ((((((((((((h.off ho (Or.inl rfl)).off ho (Or.inl rfl)).off ho (Or.inl rfl)).off ho (Or.inl rfl)).off ho (Or.inl rfl)).off ho (Or.inl rfl)).off ho (Or.inr rfl)).off ho (Or.inr rfl)).off ho (Or.inr rfl)).off ho (Or.inr rfl)).off ho (Or.inr rfl)).off ho (Or.inr rfl))
theorem ICell.off12 {g : Nat} {n : Bool} {m : Value} (h : ICell w g n m) (hp : g ≠ p) (hq : g ≠ q) : ICell ((((((((((((w.setCell ⟨p, 0, none⟩ v0).setCell ⟨p, 1, none⟩ v1).setCell ⟨p, 2, none⟩ v2).setCell ⟨p, 3, none⟩ v3).setCell ⟨p, 4, none⟩ v4).setCell ⟨p, 5, none⟩ v5).setCell ⟨q, 0, none⟩ u0).setCell ⟨q, 1, none⟩ u1).setCell ⟨q, 2, none⟩ u2).setCell ⟨q, 3, none⟩ u3).setCell ⟨q, 4, none⟩ u4).setCell ⟨q, 5, none⟩ u5) g n m :=
  (((((((((((h.other hp _ _).other hp _ _).other hp _ _).other hp _ _).other hp _ _).other hp _ _).other hq _ _).other hq _ _).other hq _ _).other hq _ _).other hq _ _).other hq _ _
theorem below12 {w0 : World} (hb : Below w0.heap.size w0 w) (hp : w0.heap.size ≤ p) (hq : w0.heap.size ≤ q) : Below w0.heap.size w0 ((((((((((((w.setCell ⟨p, 0, none⟩ v0).setCell ⟨p, 1, none⟩ v1).setCell ⟨p, 2, none⟩ v2).setCell ⟨p, 3, none⟩ v3).setCell ⟨p, 4, none⟩ v4).setCell ⟨p, 5, none⟩ v5).setCell ⟨q, 0, none⟩ u0).setCell ⟨q, 1, none⟩ u1).setCell ⟨q, 2, none⟩ u2).setCell ⟨q, 3, none⟩ u3).setCell ⟨q, 4, none⟩ u4).setCell ⟨q, 5, none⟩ u5) := row_below (row_below hb hp) hq
end
theorem two_rows {w : World} {p q : Nat} {a0 a1 a2 b0 b1 b2 k0 k1 k2 j0 j1 j2 : Bool} {x0 x1 x2 y0 y1 y2 v1 v3 v5 u1 u3 u5 : Value} (h : RCell w p a0 x0 a1 x1 a2 x2) (h2 : RCell w q b0 y0 b1 y1 b2 y2) (hne : p ≠ q) :
    RCell ((((((((((((w.setCell ⟨p, 0, none⟩ (.bool k0)).setCell ⟨p, 1, none⟩ v1).setCell ⟨p, 2, none⟩ (.bool k1)).setCell ⟨p, 3, none⟩ v3).setCell ⟨p, 4, none⟩ (.bool k2)).setCell ⟨p, 5, none⟩ v5).setCell ⟨q, 0, none⟩ (.bool j0)).setCell ⟨q, 1, none⟩ u1).setCell ⟨q, 2, none⟩ (.bool j1)).setCell ⟨q, 3, none⟩ u3).setCell ⟨q, 4, none⟩ (.bool j2)).setCell ⟨q, 5, none⟩ u5) p k0 v1 k1 v3 k2 v5 ∧ RCell ((((((((((((w.setCell ⟨p, 0, none⟩ (.bool k0)).setCell ⟨p, 1, none⟩ v1).setCell ⟨p, 2, none⟩ (.bool k1)).setCell ⟨p, 3, none⟩ v3).setCell ⟨p, 4, none⟩ (.bool k2)).setCell ⟨p, 5, none⟩ v5).setCell ⟨q, 0, none⟩ (.bool j0)).setCell ⟨q, 1, none⟩ u1).setCell ⟨q, 2, none⟩ (.bool j1)).setCell ⟨q, 3, none⟩ u3).setCell ⟨q, 4, none⟩ (.bool j2)).setCell ⟨q, 5, none⟩ u5) q j0 u1 j1 u3 j2 u5 :=
  ⟨((((((h.write k0 v1 k1 v3 k2 v5).other hne _ _).other hne _ _).other hne _ _).other hne _ _).other hne _ _).other hne _ _, (((((((h2.other (Ne.symm hne) _ _).other (Ne.symm hne) _ _).other (Ne.symm hne) _ _).other (Ne.symm hne) _ _).other (Ne.symm hne) _ _).other (Ne.symm hne) _ _).write j0 u1 j1 u3 j2 u5)⟩
/-- A number that may lie in a row: it can be read, and lies away. -/
def NumR (w : World) (B p q : Nat) (n : Bool) (m : Value) (z : Int) : Prop := INum w (.agg #[.bool n, m]) z ∧ OffR m p q ∧ Fr (.agg #[.bool n, m]) B
theorem NumR.below {w w' : World} {B p q : Nat} {n : Bool} {m : Value} {z : Int} (h : NumR w B p q n m z) (hb : Below w.heap.size w w') : NumR w' B p q n m z := ⟨h.1.below hb, h.2⟩
theorem IOwn.numR {C B p q : Nat} {w : World} {v : Value} {z : Int} (h : IOwn C w v z) (hB : B ≤ C) (hp : p < C ∨ w.heap.size ≤ p) (hq : q < C ∨ w.heap.size ≤ q) {L : Nat} (hs : Sz z L) (hL : L ≤ 1000000) : ∃ n ao l c, v = .agg #[.bool n, .slice ao l c] ∧ NumR w B p q n (.slice ao l c) z := by
  have hi := h.num hs hL
  obtain ⟨m, rfl, ho⟩ := h
  obtain ⟨ao, l, c, rfl⟩ := ho.sl
  exact ⟨_, ao, l, c, rfl, hi, OffR.gen ho hp hq, Fr.of_own ho hB⟩
theorem Away.numR {B p q : Nat} {w : World} {n : Bool} {m : Value} {z : Int} (h : Away w q (.agg #[.bool n, m]) z) (hB : B ≤ q) (hp : p ≤ q) : NumR w B p q n m z := by
  have hi := h.num
  obtain ⟨n', m', xs, e, ho, _, _⟩ := h
  simp only [Value.agg.injEq, Array.mk.injEq, List.cons.injEq, Value.bool.injEq, and_true] at e
  obtain ⟨rfl, rfl⟩ := e
  exact ⟨hi, OffR.gen ho (by omega) (by omega), Fr.of_own ho (by omega)⟩
/-- A row of three numbers in its block. -/
def RowAt (w : World) (B p q g : Nat) (r s t : Int) : Prop := ∃ n0 o0 l0 c0 n1 o1 l1 c1 n2 o2 l2 c2, RCell w g n0 (.slice o0 l0 c0) n1 (.slice o1 l1 c1) n2 (.slice o2 l2 c2) ∧ NumR w B p q n0 (.slice o0 l0 c0) r ∧ NumR w B p q n1 (.slice o1 l1 c1) s ∧ NumR w B p q n2 (.slice o2 l2 c2) t
theorem RowAt.below {w w' : World} {B p q g : Nat} {r s t : Int} (h : RowAt w B p q g r s t) (hb : Below w.heap.size w w') : RowAt w' B p q g r s t := by
  obtain ⟨n0, o0, l0, c0, n1, o1, l1, c1, n2, o2, l2, c2, h0, h1, h2, h3⟩ := h
  exact ⟨_, _, _, _, _, _, _, _, _, _, _, _, h0.below hb, h1.below hb, h2.below hb, h3.below hb⟩
open Classical in
/-- The size of a row's first number. -/
noncomputable def rowV (w : World) (g : Nat) : Nat := match w.cell? ⟨g, 1, none⟩ with | some m => valAt w m | none => 0
theorem rowV_eq {w : World} {B p q g : Nat} {r s t : Int} (h : RowAt w B p q g r s t) : rowV w g = r.natAbs := by
  obtain ⟨n0, o0, l0, c0, n1, o1, l1, c1, n2, o2, l2, c2, h0, h1, _⟩ := h
  unfold rowV
  rw [h0.cells.2.1]
  obtain ⟨xs, hn, _, hv, _⟩ := h1.1.abs
  show valAt w _ = _
  rw [valAt_eq hn, hv]
/-- What Bezout leaves. -/
def BEnd (w : World) (x y : Int) (b : Int × Int × Int) (e : Ending) (w' : World) : Prop := ∃ mg vx vy gs, e = .returned (.tuple #[mg, vx, vy]) ∧ Num w' mg gs ∧ gs.length ≤ 1000000 ∧ val gs = b.1.natAbs ∧ INum w' vx (if x < 0 then -b.2.1 else b.2.1) ∧ INum w' vy (if y < 0 then -b.2.2 else b.2.2) ∧ Below w.heap.size w w'
/-- Where the loop stands. -/
def BInv (I : Int → Int → Int → Int → Int → Int → Prop) (BZ : Int × Int × Int) (w : World) (B g p q : Nat) (na nb : Bool) (ma mb : Value) (wr : World) : Prop :=
  ∃ r0 s0 t0 r1 s1 t1, RowAt wr B p q p r0 s0 t0 ∧ RowAt wr B p q q r1 s1 t1 ∧ I r0 s0 t0 r1 s1 t1 ∧ bz r0 s0 t0 r1 s1 t1 = BZ ∧ (ICell wr g na ma ∧ ICell wr (g + 1) nb mb ∧ ICell wr (g + 1 + 1) false (.slice none 0 0) ∧ ICell wr (g + 1 + 1 + 1) false (.slice none 0 0)) ∧ Below w.heap.size w wr ∧ q < wr.heap.size
theorem cmpZ_zero (z : Int) : cmpZ z 0 = 0 ↔ z = 0 := by
  unfold cmpZ
  repeat' split
  all_goals omega

set_option maxRecDepth 100000 in
set_option maxHeartbeats 12800000 in
theorem c_bezout {a b : Value} {x y : Int} {w : World} (ha : INum w a x) (hb' : INum w b y) (I : Int → Int → Int → Int → Int → Int → Prop) (h0 : I (x.natAbs : Int) 1 0 (y.natAbs : Int) 0 1)
    (hI : ∀ r0 s0 t0 r1 s1 t1, I r0 s0 t0 r1 s1 t1 → r1 ≠ 0 → I r1 s1 t1 (rz r0 r1) (s0 - r0.tdiv r1 * s1) (t0 - r0.tdiv r1 * t1))
    (hS : ∀ r0 s0 t0 r1 s1 t1, I r0 s0 t0 r1 s1 t1 → Sz r0 400000 ∧ Sz s0 400000 ∧ Sz t0 400000 ∧ Sz r1 400000 ∧ Sz s1 400000 ∧ Sz t1 400000) :
    Calls Tryd.prog 49 #[a, b] w fun e w' => BEnd w x y (bz x.natAbs 1 0 y.natAbs 0 1) e w' := by
  obtain ⟨BZ, hBZ⟩ : ∃ BZ, BZ = bz x.natAbs 1 0 y.natAbs 0 1 := ⟨_, rfl⟩
  have HBZ : Hid (bz x.natAbs 1 0 y.natAbs 0 1 = BZ) := hBZ.symm
  have HI : Hid (∀ r0 s0 t0 r1 s1 t1, I r0 s0 t0 r1 s1 t1 → r1 ≠ 0 → I r1 s1 t1 (rz r0 r1) (s0 - r0.tdiv r1 * s1) (t0 - r0.tdiv r1 * t1)) := hI
  have HSZ : Hid (∀ r0 s0 t0 r1 s1 t1, I r0 s0 t0 r1 s1 t1 → Sz r0 400000 ∧ Sz s0 400000 ∧ Sz t0 400000 ∧ Sz r1 400000 ∧ Sz s1 400000 ∧ Sz t1 400000) := hS
  have H0 : Hid (I (x.natAbs : Int) 1 0 (y.natAbs : Int) 0 1) := h0
  rw [← hBZ]
  clear hBZ hI hS h0
  obtain ⟨na, ao, al, ac, xa, rfl, ua, la, za⟩ := ha
  have ha : INum w (.agg #[.bool na, .slice ao al ac]) x := ⟨_, _, _, _, _, rfl, ua, la, za⟩
  clear ua la za
  obtain ⟨nb, bo, bl, bc, xb, rfl, ub, lb, zb⟩ := hb'
  have hb' : INum w (.agg #[.bool nb, .slice bo bl bc]) y := ⟨_, _, _, _, _, rfl, ub, lb, zb⟩
  clear ub lb zb
  obtain ⟨W1, hW1⟩ : ∃ W1, W1 = (((w.alloc (.cells #[.bool na, .slice ao al ac] 25)).alloc (.cells #[.bool nb, .slice bo bl bc] 25)).alloc (.cells #[.bool false, .slice none 0 0] 25)).alloc (.cells #[.bool false, .slice none 0 0] 25) := ⟨_, rfl⟩
  have q0 : ICell W1 (w.heap.size) na (.slice ao al ac) := by rw [hW1]; exact (icell_step (icell_step (icell_step (icell_new _ (by simp)))))
  have q1 : ICell W1 (w.heap.size + 1) nb (.slice bo bl bc) := by rw [hW1]; exact (icell_step (icell_step (icell_new _ (by simp))))
  have q2 : ICell W1 (w.heap.size + 1 + 1) false (.slice none 0 0) := by rw [hW1]; exact (icell_step (icell_new _ (by simp)))
  have q3 : ICell W1 (w.heap.size + 1 + 1 + 1) false (.slice none 0 0) := by rw [hW1]; exact (icell_new _ (by simp))
  have hb : Below w.heap.size w W1 := by rw [hW1]; exact bstep (bstep (bstep (belowA w _) (belowA _ _)) (belowA _ _)) (belowA _ _)
  have hsz : w.heap.size + 1 + 1 + 1 < W1.heap.size := by rw [hW1]; simp
  have ja := ha.below hb
  have jb := hb'.below hb
  have HW1 : Hid (W1 = (((w.alloc (.cells #[.bool na, .slice ao al ac] 25)).alloc (.cells #[.bool nb, .slice bo bl bc] 25)).alloc (.cells #[.bool false, .slice none 0 0] 25)).alloc (.cells #[.bool false, .slice none 0 0] 25)) := hW1
  clear hW1
  go_enter Tryd.func49, Tryd.ntmps49
  go_wp2_with fail
  rw [← HW1.out]
  clear HW1
  obtain ⟨g, hg⟩ : ∃ g, g = w.heap.size := ⟨_, rfl⟩
  rw [← hg] at q0 q1 q2 q3 hsz ⊢
  have HG : Hid (g = w.heap.size) := hg
  clear hg
  have HAB : Hid (INum w (.agg #[.bool na, .slice ao al ac]) x ∧ INum w (.agg #[.bool nb, .slice bo bl bc]) y) := ⟨ha, hb'⟩
  clear ha hb'
  have HB : Hid (g + 1 + 1 + 1 < W1.heap.size) := hsz
  obtain ⟨X, hX⟩ : ∃ X : Int, X = (x.natAbs : Int) := ⟨_, rfl⟩
  obtain ⟨Y, hY⟩ : ∃ Y : Int, Y = (y.natAbs : Int) := ⟨_, rfl⟩
  rw [← hX, ← hY] at H0 HBZ
  have sX := (HSZ.out _ _ _ _ _ _ H0.out).1
  have sY := (HSZ.out _ _ _ _ _ _ H0.out).2.2.2.1
  have HX : Hid (X = (x.natAbs : Int)) := hX
  have HY : Hid (Y = (y.natAbs : Int)) := hY
  clear hX hY
  refine (c_size ja).mono ?_
  rw [← HX.out]
  rintro e w2 ⟨v0, rfl, A0, b2⟩
  obtain ⟨m0, rfl, A0⟩ := A0
  obtain ⟨a0o, a0l, a0c, rfl⟩ := A0.sl
  replace q0 := q0.below b2
  replace q1 := q1.below b2
  replace q2 := q2.below b2
  replace q3 := q3.below b2
  replace jb := jb.below b2
  replace hb := bstep hb b2
  clear ja
  obtain ⟨an0, han0⟩ : ∃ n, n = decide (X < 0) := ⟨_, rfl⟩
  rw [← han0]
  have HN0 : Hid (an0 = decide (X < 0)) := han0
  clear han0
  go_wp2_with fail
  refine (c_of (n := 1) (by decide) (by decide)).mono ?_
  rintro e w3 ⟨v0, rfl, A1, b3⟩
  obtain ⟨m0, rfl, A1⟩ := A1
  obtain ⟨a1o, a1l, a1c, rfl⟩ := A1.sl
  replace A0 := A0.below b3
  replace q0 := q0.below b3
  replace q1 := q1.below b3
  replace q2 := q2.below b3
  replace q3 := q3.below b3
  replace jb := jb.below b3
  replace hb := bstep hb b3
  rw [show decide ((1 : Int) < 0) = false from rfl]
  go_wp2_with fail
  refine (c_of (n := 0) (by decide) (by decide)).mono ?_
  rintro e w4 ⟨v0, rfl, A2, b4⟩
  obtain ⟨m0, rfl, A2⟩ := A2
  obtain ⟨a2o, a2l, a2c, rfl⟩ := A2.sl
  replace A0 := A0.below b4
  replace A1 := A1.below b4
  replace q0 := q0.below b4
  replace q1 := q1.below b4
  replace q2 := q2.below b4
  replace q3 := q3.below b4
  replace jb := jb.below b4
  replace hb := bstep hb b4
  rw [show decide ((0 : Int) < 0) = false from rfl]
  obtain ⟨W5, hW5⟩ : ∃ W5, W5 = w4.alloc (.cells #[.bool an0, .slice a0o a0l a0c, .bool false, .slice a1o a1l a1c, .bool false, .slice a2o a2l a2c] 93) := ⟨_, rfl⟩
  have r7 : RCell W5 w4.heap.size an0 (.slice a0o a0l a0c) false (.slice a1o a1l a1c) false (.slice a2o a2l a2c) := by rw [hW5]; exact rcell_new _ rfl
  have b5 : Below w4.heap.size w4 W5 := by rw [hW5]; exact belowA _ _
  have z5 : W5.heap.size = w4.heap.size + 1 := by rw [hW5]; simp
  replace q0 := q0.below b5
  replace q1 := q1.below b5
  replace q2 := q2.below b5
  replace q3 := q3.below b5
  replace jb := jb.below b5
  replace hb := bstep hb b5
  have HZ5 : Hid (W5.heap.size = w4.heap.size + 1) := z5
  have HW5 : Hid (W5 = w4.alloc (.cells #[.bool an0, .slice a0o a0l a0c, .bool false, .slice a1o a1l a1c, .bool false, .slice a2o a2l a2c] 93)) := hW5
  clear hW5 z5
  obtain ⟨P, hP⟩ : ∃ P, P = w4.heap.size := ⟨_, rfl⟩
  rw [← hP] at r7
  have HP : Hid (P = w4.heap.size) := hP
  have c1 : (w4.alloc (.cells #[.bool an0, .slice a0o a0l a0c, .bool false, .slice a1o a1l a1c, .bool false, .slice a2o a2l a2c] 93)).cell? ⟨g + 1, 0, none⟩ = some (.bool nb) := by rw [← HW5.out]; exact q1.cells.1
  have d1 : (w4.alloc (.cells #[.bool an0, .slice a0o a0l a0c, .bool false, .slice a1o a1l a1c, .bool false, .slice a2o a2l a2c] 93)).cell? ⟨g + 1, 1, none⟩ = some (.slice bo bl bc) := by rw [← HW5.out]; exact q1.cells.2
  go_wp2_with fail
  rw [← HW5.out, ← hP]
  clear HW5 hP c1 d1
  refine (c_size jb).mono ?_
  rw [← HY.out]
  rintro e w6 ⟨v0, rfl, C0, b6⟩
  obtain ⟨m0, rfl, C0⟩ := C0
  obtain ⟨e0o, e0l, e0c, rfl⟩ := C0.sl
  replace r7 := r7.below b6
  replace q0 := q0.below b6
  replace q1 := q1.below b6
  replace q2 := q2.below b6
  replace q3 := q3.below b6
  replace jb := jb.below b6
  replace hb := bstep hb b6
  clear jb
  obtain ⟨en0, hen0⟩ : ∃ n, n = decide (Y < 0) := ⟨_, rfl⟩
  rw [← hen0]
  have HN1 : Hid (en0 = decide (Y < 0)) := hen0
  clear hen0
  go_wp2_with fail
  refine (c_of (n := 0) (by decide) (by decide)).mono ?_
  rintro e w7 ⟨v0, rfl, C1, b7⟩
  obtain ⟨m0, rfl, C1⟩ := C1
  obtain ⟨e1o, e1l, e1c, rfl⟩ := C1.sl
  replace C0 := C0.below b7
  replace r7 := r7.below b7
  replace q0 := q0.below b7
  replace q1 := q1.below b7
  replace q2 := q2.below b7
  replace q3 := q3.below b7
  replace hb := bstep hb b7
  rw [show decide ((0 : Int) < 0) = false from rfl]
  go_wp2_with fail
  refine (c_of (n := 1) (by decide) (by decide)).mono ?_
  rintro e w8 ⟨v0, rfl, C2, b8⟩
  obtain ⟨m0, rfl, C2⟩ := C2
  obtain ⟨e2o, e2l, e2c, rfl⟩ := C2.sl
  replace C0 := C0.below b8
  replace C1 := C1.below b8
  replace r7 := r7.below b8
  replace q0 := q0.below b8
  replace q1 := q1.below b8
  replace q2 := q2.below b8
  replace q3 := q3.below b8
  replace hb := bstep hb b8
  rw [show decide ((1 : Int) < 0) = false from rfl]
  obtain ⟨W9, hW9⟩ : ∃ W9, W9 = w8.alloc (.cells #[.bool en0, .slice e0o e0l e0c, .bool false, .slice e1o e1l e1c, .bool false, .slice e2o e2l e2c] 93) := ⟨_, rfl⟩
  have r8 : RCell W9 w8.heap.size en0 (.slice e0o e0l e0c) false (.slice e1o e1l e1c) false (.slice e2o e2l e2c) := by rw [hW9]; exact rcell_new _ rfl
  have b9 : Below w8.heap.size w8 W9 := by rw [hW9]; exact belowA _ _
  have z9 : w8.heap.size < W9.heap.size := by rw [hW9]; simp
  replace r7 := r7.below b9
  replace q0 := q0.below b9
  replace q1 := q1.below b9
  replace q2 := q2.below b9
  replace q3 := q3.below b9
  replace hb := bstep hb b9
  have l2 := b2.size
  have l3 := b3.size
  have l4 := b4.size
  have l5 := b5.size
  have l6 := b6.size
  have l7 := b7.size
  have l8 := b8.size
  have A0n := IOwn.numR (B := W1.heap.size) (p := w4.heap.size) (q := w8.heap.size) ⟨_, rfl, A0⟩ (Nat.le_refl _) (Or.inr (by omega)) (Or.inr (by omega)) sX (by decide)
  have A1n := IOwn.numR (B := W1.heap.size) (p := w4.heap.size) (q := w8.heap.size) (z := 1) ⟨_, rfl, A1⟩ (by omega) (Or.inr (by omega)) (Or.inr (by omega)) Sz.one (by decide)
  have A2n := IOwn.numR (B := W1.heap.size) (p := w4.heap.size) (q := w8.heap.size) (z := 0) ⟨_, rfl, A2⟩ (by omega) (Or.inr (by omega)) (Or.inr (by omega)) Sz.zero (by decide)
  have hz5 := HZ5.out
  have C0n := IOwn.numR (B := W1.heap.size) (p := w4.heap.size) (q := w8.heap.size) ⟨_, rfl, C0⟩ (by omega) (Or.inl (by omega)) (Or.inr (by omega)) sY (by decide)
  have C1n := IOwn.numR (B := W1.heap.size) (p := w4.heap.size) (q := w8.heap.size) (z := 0) ⟨_, rfl, C1⟩ (by omega) (Or.inl (by omega)) (Or.inr (by omega)) Sz.zero (by decide)
  have C2n := IOwn.numR (B := W1.heap.size) (p := w4.heap.size) (q := w8.heap.size) (z := 1) ⟨_, rfl, C2⟩ (by omega) (Or.inl (by omega)) (Or.inr (by omega)) Sz.one (by decide)
  have HBI : Hid (BInv I BZ w W1.heap.size g w4.heap.size w8.heap.size na nb (.slice ao al ac) (.slice bo bl bc) W9) := by
    obtain ⟨_, _, _, _, e, A0n⟩ := A0n
    cases e
    obtain ⟨_, _, _, _, e, A1n⟩ := A1n
    cases e
    obtain ⟨_, _, _, _, e, A2n⟩ := A2n
    cases e
    obtain ⟨_, _, _, _, e, C0n⟩ := C0n
    cases e
    obtain ⟨_, _, _, _, e, C1n⟩ := C1n
    cases e
    obtain ⟨_, _, _, _, e, C2n⟩ := C2n
    cases e
    rw [← HN0.out] at A0n
    rw [← HN1.out] at C0n
    rw [HP.out] at r7
    have b48 := bstep b5 (bstep b6 (bstep b7 b8))
    exact ⟨X, 1, 0, Y, 0, 1, ⟨_, _, _, _, _, _, _, _, _, _, _, _, r7, (A0n.below b48).below b9, (A1n.below b48).below b9, (A2n.below b48).below b9⟩, ⟨_, _, _, _, _, _, _, _, _, _, _, _, r8, C0n.below b9, C1n.below b9, C2n.below b9⟩, H0.out, HBZ.out, ⟨q0, q1, q2, q3⟩, hb, z9⟩
  have HPQ : Hid (W1.heap.size ≤ w4.heap.size ∧ w4.heap.size < w8.heap.size) := ⟨by omega, by omega⟩
  have HW9 : Hid (W9 = w8.alloc (.cells #[.bool en0, .slice e0o e0l e0c, .bool false, .slice e1o e1l e1c, .bool false, .slice e2o e2l e2c] 93)) := hW9
  rw [← HP.out] at HBI HPQ
  obtain ⟨Qq, hQq⟩ : ∃ Q, Q = w8.heap.size := ⟨_, rfl⟩
  rw [← hQq] at HBI HPQ
  clear A0 A1 A2 C0 C1 C2 A0n A1n A2n C0n C1n C2n hW9 r7 r8 q0 q1 q2 q3 hb b2 b3 b4 b5 b6 b7 b8 b9 l2 l3 l4 l5 l6 l7 l8 hz5 z9 hsz sX sY HN0 HN1 H0 HBZ HZ5 HX HY
  go_wp2_with fail
  rw [← HW9.out, ← hQq]
  clear HW9 hQq
  go_loopw [19] (fun _ wr => BInv I BZ w W1.heap.size g P Qq na nb (.slice ao al ac) (.slice bo bl bc) wr) (fun _ wr => rowV wr Qq)
  case atStart => exact HBI.out
  case round =>
    clear HBI
    obtain ⟨r0, s0, t0, r1, s1, t1, hr7, hr8, hIr, hbz, ⟨q0, q1, q2, q3⟩, hb, hq8⟩ := hrel
    obtain ⟨an0, ao0, al0, ac0, an1, ao1, al1, ac1, an2, ao2, al2, ac2, k7, ra0, ra1, ra2⟩ := hr7
    obtain ⟨bn0, bo0, bl0, bc0, bn1, bo1, bl1, bc1, bn2, bo2, bl2, bc2, k8, rb0, rb1, rb2⟩ := hr8
    have hmeas : rowV _ Qq = r1.natAbs := rowV_eq ⟨_, _, _, _, _, _, _, _, _, _, _, _, k8, rb0, rb1, rb2⟩
    have HME : Hid (rowV _ Qq = r1.natAbs) := hmeas
    clear hmeas
    have HIr : Hid (I r0 s0 t0 r1 s1 t1) := hIr
    have Hbz : Hid (bz r0 s0 t0 r1 s1 t1 = BZ) := hbz
    clear hIr hbz
    obtain ⟨y0, y1, y2, y3, y4, y5⟩ := k8.cells
    go_wp2_with fail
    refine (c_sign rb0.1).mono ?_
    rintro e wA ⟨rfl, bA⟩
    replace k7 := k7.below bA
    replace k8 := k8.below bA
    replace ra0 := ra0.below bA
    replace ra1 := ra1.below bA
    replace ra2 := ra2.below bA
    replace rb0 := rb0.below bA
    replace rb1 := rb1.below bA
    replace rb2 := rb2.below bA
    replace q0 := q0.below bA
    replace q1 := q1.below bA
    replace q2 := q2.below bA
    replace q3 := q3.below bA
    replace hb := bstep hb bA
    replace hq8 := Nat.lt_of_lt_of_le hq8 bA.size
    clear y0 y1 y2 y3 y4 y5 bA
    obtain ⟨cc, hcc⟩ : ∃ c, c = cmpZ r1 0 := ⟨_, rfl⟩
    rw [← hcc]
    by_cases hr1 : r1 = 0
    · have hc0 : (cc != 0) = false := by rw [hcc, (cmpZ_zero r1).2 hr1]; rfl
      have HZ : Hid (BZ = (r0, s0, t0)) := by show _ = _; rw [← Hbz.out]; exact bz_stop hr1
      clear hcc hr1
      go_wp2_with fail
      have k7c := k7.cells
      have q0c := q0.cells
      have q1c := q1.cells
      have hpq := HPQ.out
      have hBg := HB.out
      refine region_late [(2, fun w' => w'.cell? ⟨P, 1, none⟩ = some (.slice ao0 al0 ac0)), (3, fun w' => w'.cell? ⟨g, 0, none⟩ = some (.bool na) ∧ w'.cell? ⟨g, 1, none⟩ = some (.slice ao al ac)), (5, fun w' => w'.cell? ⟨P, 2, none⟩ = some (.bool an1) ∧ w'.cell? ⟨P, 3, none⟩ = some (.slice ao1 al1 ac1)), (7, fun w' => w'.cell? ⟨g + 1, 0, none⟩ = some (.bool nb) ∧ w'.cell? ⟨g + 1, 1, none⟩ = some (.slice bo bl bc)), (9, fun w' => w'.cell? ⟨P, 4, none⟩ = some (.bool an2) ∧ w'.cell? ⟨P, 5, none⟩ = some (.slice ao2 al2 ac2))] (by kernel_rfl) ?_
      have hHeld : AllL wA.drew [(2, fun w' => w'.cell? ⟨P, 1, none⟩ = some (.slice ao0 al0 ac0)), (3, fun w' => w'.cell? ⟨g, 0, none⟩ = some (.bool na) ∧ w'.cell? ⟨g, 1, none⟩ = some (.slice ao al ac)), (5, fun w' => w'.cell? ⟨P, 2, none⟩ = some (.bool an1) ∧ w'.cell? ⟨P, 3, none⟩ = some (.slice ao1 al1 ac1)), (7, fun w' => w'.cell? ⟨g + 1, 0, none⟩ = some (.bool nb) ∧ w'.cell? ⟨g + 1, 1, none⟩ = some (.slice bo bl bc)), (9, fun w' => w'.cell? ⟨P, 4, none⟩ = some (.bool an2) ∧ w'.cell? ⟨P, 5, none⟩ = some (.slice ao2 al2 ac2))] := ⟨k7c.2.1, q0c, ⟨k7c.2.2.1, k7c.2.2.2.1⟩, q1c, ⟨k7c.2.2.2.2.1, k7c.2.2.2.2.2⟩, trivial⟩
      refine late_free 0 (v := .pointer (some ⟨P, 0, none⟩)) rfl (by kernel_rfl) (by kernel_rfl) (by kernel_rfl) (by kernel_rfl) (by kernel_rfl) (by kernel_rfl) (fun _ _ _ h => h) (Or.inl ⟨by rfl, ?_⟩) hHeld ?_
      · (intro u _; go_simp)
      (try simp only [Act.put, List.setIfInBounds_toArray, List.set_cons_zero, List.set_cons_succ])
      refine late_free 1 (v := .pointer (some ⟨P, 1, none⟩)) rfl (by kernel_rfl) (by kernel_rfl) (by kernel_rfl) (by kernel_rfl) (by kernel_rfl) (by kernel_rfl) (fun _ _ _ h => h) (Or.inl ⟨by rfl, ?_⟩) hHeld ?_
      · (intro u _; go_simp)
      (try simp only [Act.put, List.setIfInBounds_toArray, List.set_cons_zero, List.set_cons_succ])
      refine late_take 2 (v := .slice ao0 al0 ac0) rfl (by kernel_rfl) (List.Mem.head _) (by kernel_rfl) (by kernel_rfl) (by kernel_rfl) (by kernel_rfl) (fun _ _ _ h => h) (Or.inl ⟨by rfl, ?_⟩) hHeld ?_
      · (intro u hu; (try dsimp only at hu); go_split_ands; go_simp)
      (try simp only [Act.put, List.setIfInBounds_toArray, List.set_cons_zero, List.set_cons_succ])
      refine late_take 3 (v := .agg #[.bool na, .slice ao al ac]) rfl (by kernel_rfl) (List.Mem.tail _ (List.Mem.head _)) (by kernel_rfl) (by kernel_rfl) (by kernel_rfl) (by kernel_rfl) (fun _ _ _ h => h) (Or.inl ⟨by rfl, ?_⟩) hHeld ?_
      · (intro u hu; (try dsimp only at hu); go_split_ands; go_simp)
      (try simp only [Act.put, List.setIfInBounds_toArray, List.set_cons_zero, List.set_cons_succ])
      refine late_free 4 (v := .pointer (some ⟨P, 2, none⟩)) rfl (by kernel_rfl) (by kernel_rfl) (by kernel_rfl) (by kernel_rfl) (by kernel_rfl) (by kernel_rfl) (fun _ _ _ h => h) (Or.inl ⟨by rfl, ?_⟩) hHeld ?_
      · (intro u _; go_simp)
      (try simp only [Act.put, List.setIfInBounds_toArray, List.set_cons_zero, List.set_cons_succ])
      refine late_take 5 (v := .agg #[.bool an1, .slice ao1 al1 ac1]) rfl (by kernel_rfl) (List.Mem.tail _ (List.Mem.tail _ (List.Mem.head _))) (by kernel_rfl) (by kernel_rfl) (by kernel_rfl) (by kernel_rfl) (fun _ _ _ h => h) (Or.inl ⟨by rfl, ?_⟩) hHeld ?_
      · (intro u hu; (try dsimp only at hu); go_split_ands; go_simp)
      (try simp only [Act.put, List.setIfInBounds_toArray, List.set_cons_zero, List.set_cons_succ])
      refine late_take 7 (v := .agg #[.bool nb, .slice bo bl bc]) rfl (by kernel_rfl) (List.Mem.tail _ (List.Mem.tail _ (List.Mem.tail _ (List.Mem.head _)))) (by kernel_rfl) (by kernel_rfl) (by kernel_rfl) (by kernel_rfl) (fun _ _ _ h => h) (Or.inl ⟨by rfl, ?_⟩) hHeld ?_
      · (intro u hu; (try dsimp only at hu); go_split_ands; go_simp)
      (try simp only [Act.put, List.setIfInBounds_toArray, List.set_cons_zero, List.set_cons_succ])
      refine late_free 8 (v := .pointer (some ⟨P, 4, none⟩)) rfl (by kernel_rfl) (by kernel_rfl) (by kernel_rfl) (by kernel_rfl) (by kernel_rfl) (by kernel_rfl) (fun _ _ _ h => h) (Or.inl ⟨by rfl, ?_⟩) hHeld ?_
      · (intro u _; go_simp)
      (try simp only [Act.put, List.setIfInBounds_toArray, List.set_cons_zero, List.set_cons_succ])
      refine late_take 9 (v := .agg #[.bool an2, .slice ao2 al2 ac2]) rfl (by kernel_rfl) (List.Mem.tail _ (List.Mem.tail _ (List.Mem.tail _ (List.Mem.tail _ (List.Mem.head _))))) (by kernel_rfl) (by kernel_rfl) (by kernel_rfl) (by kernel_rfl) (fun _ _ _ h => h) (Or.inl ⟨by rfl, ?_⟩) hHeld ?_
      · (intro u hu; (try dsimp only at hu); go_split_ands; go_simp)
      (try simp only [Act.put, List.setIfInBounds_toArray, List.set_cons_zero, List.set_cons_succ])
      refine late_step 6 (by kernel_rfl) rfl (fun K hK => ?_)
      go_simp
      refine (c_onSideN (w := wA.drew) ((HAB.out.1.below hb).below (below_drew' _)) (ra1.1.below (below_drew' _)) (B := W1.heap.size) ra1.2.2 (show W1.heap.size ≤ wA.heap.size by omega)).mono ?_
      rintro e wB ⟨vx, rfl, ix, fx, bB⟩
      obtain ⟨nx, xo, xl, xc, xx, rfl, xu, xll, xz⟩ := ix
      have ix : INum wB (.agg #[.bool nx, .slice xo xl xc]) (if x < 0 then -s0 else s0) := ⟨_, _, _, _, _, rfl, xu, xll, xz⟩
      clear xu xll xz
      have bAB := bstep (below_drew' wA) bB
      have lAB := bAB.size
      go_wp2_with fail
      refine hK.out _ _ (AllL.kept ⟨(k7.below bAB).cells.2.1, (q0.below bAB).cells, ⟨(k7.below bAB).cells.2.2.1, (k7.below bAB).cells.2.2.2.1⟩, (q1.below bAB).cells, ⟨(k7.below bAB).cells.2.2.2.2.1, (k7.below bAB).cells.2.2.2.2.2⟩, trivial⟩) ?_
      clear hK K
      (try simp only [Act.put, List.setIfInBounds_toArray, List.set_cons_zero, List.set_cons_succ])
      refine late_step 10 (by kernel_rfl) rfl (fun K hK => ?_)
      go_simp
      refine (c_onSideN ((HAB.out.2.below hb).below bAB) (ra2.1.below bAB) (B := W1.heap.size) ra2.2.2 (by omega)).mono ?_
      rintro e wC ⟨vy, rfl, iy, fy, bC⟩
      obtain ⟨ny, yo, yl, yc, yx, rfl, yu, yll, yz⟩ := iy
      have iy : INum wC (.agg #[.bool ny, .slice yo yl yc]) (if y < 0 then -t0 else t0) := ⟨_, _, _, _, _, rfl, yu, yll, yz⟩
      clear yu yll yz
      have bAC := bstep bAB bC
      go_wp2_with fail
      refine hK.out _ _ (AllL.kept ⟨(k7.below bAC).cells.2.1, (q0.below bAC).cells, ⟨(k7.below bAC).cells.2.2.1, (k7.below bAC).cells.2.2.2.1⟩, (q1.below bAC).cells, ⟨(k7.below bAC).cells.2.2.2.2.1, (k7.below bAC).cells.2.2.2.2.2⟩, trivial⟩) ?_
      clear hK K
      (try simp only [Act.put, List.setIfInBounds_toArray, List.set_cons_zero, List.set_cons_succ])
      replace q2 := q2.below bAC
      replace q3 := q3.below bAC
      obtain ⟨y20, y21⟩ := q2.cells
      obtain ⟨y30, y31⟩ := q3.cells
      have f20 := q2.thaw 0
      have f21 := q2.thaw 1
      have f30 := q3.thaw 0
      have f31 := q3.thaw 1
      refine late_step 11 (by kernel_rfl) rfl (fun K hK => ?_)
      go_simp
      refine hK.out _ _ ⟨Or.inl ⟨11, by kernel_rfl, by kernel_rfl⟩, Or.inl ⟨6, by kernel_rfl, by kernel_rfl⟩, Or.inl ⟨6, by kernel_rfl, by kernel_rfl⟩, Or.inl ⟨10, by kernel_rfl, by kernel_rfl⟩, Or.inl ⟨10, by kernel_rfl, by kernel_rfl⟩, trivial⟩ ?_
      clear hK K
      (try simp only [Act.put, List.setIfInBounds_toArray, List.set_cons_zero, List.set_cons_succ])
      refine late_step 12 (by kernel_rfl) rfl (fun K hK => ?_)
      go_simp
      refine hK.out _ _ ⟨Or.inl ⟨11, by kernel_rfl, by kernel_rfl⟩, Or.inl ⟨6, by kernel_rfl, by kernel_rfl⟩, Or.inl ⟨6, by kernel_rfl, by kernel_rfl⟩, Or.inl ⟨10, by kernel_rfl, by kernel_rfl⟩, Or.inl ⟨10, by kernel_rfl, by kernel_rfl⟩, trivial⟩ ?_
      clear hK K
      (try simp only [Act.put, List.setIfInBounds_toArray, List.set_cons_zero, List.set_cons_succ])
      refine late_step 13 (by kernel_rfl) rfl (fun K hK => ?_)
      go_simp
      refine hK.out _ _ ⟨Or.inl ⟨11, by kernel_rfl, by kernel_rfl⟩, Or.inl ⟨6, by kernel_rfl, by kernel_rfl⟩, Or.inl ⟨6, by kernel_rfl, by kernel_rfl⟩, Or.inl ⟨10, by kernel_rfl, by kernel_rfl⟩, Or.inl ⟨10, by kernel_rfl, by kernel_rfl⟩, trivial⟩ ?_
      clear hK K
      (try simp only [Act.put, List.setIfInBounds_toArray, List.set_cons_zero, List.set_cons_succ])
      refine late_done (by kernel_rfl) ?_ _
      have HW : Hid _ := icell_two (k1 := nx) (k2 := ny) (v1 := .slice xo xl xc) (v2 := .slice yo yl yc) q2 q3 (by omega)
      have HEE : Hid (BEnd w x y BZ (.returned (.tuple #[.slice ao0 al0 ac0, .agg #[.bool nx, .slice xo xl xc], .agg #[.bool ny, .slice yo yl yc]])) ((((wC.setCell ⟨g + 1 + 1, 0, none⟩ (.bool nx)).setCell ⟨g + 1 + 1, 1, none⟩ (.slice xo xl xc)).setCell ⟨g + 1 + 1 + 1, 0, none⟩ (.bool ny)).setCell ⟨g + 1 + 1 + 1, 1, none⟩ (.slice yo yl yc))) := by
        obtain ⟨gs, hgs, hgl, hgv, _⟩ := ((((((ra0.1.below bAC).fr ra0.2.2 (show g + 1 + 1 < W1.heap.size by omega)).fr ra0.2.2 (show g + 1 + 1 < W1.heap.size by omega)).fr ra0.2.2 hBg).fr ra0.2.2 hBg) : INum ((((wC.setCell ⟨g + 1 + 1, 0, none⟩ (.bool nx)).setCell ⟨g + 1 + 1, 1, none⟩ (.slice xo xl xc)).setCell ⟨g + 1 + 1 + 1, 0, none⟩ (.bool ny)).setCell ⟨g + 1 + 1 + 1, 1, none⟩ (.slice yo yl yc)) _ _).abs
        have hz := HZ.out
        exact ⟨_, _, _, gs, rfl, hgs, hgl, by rw [hz]; exact hgv, by rw [hz]; exact (((((ix.below bC).fr fx (show g + 1 + 1 < W1.heap.size by omega)).fr fx (show g + 1 + 1 < W1.heap.size by omega)).fr fx hBg).fr fx hBg), by rw [hz]; exact ((((iy.fr fy (show g + 1 + 1 < W1.heap.size by omega)).fr fy (show g + 1 + 1 < W1.heap.size by omega)).fr fy hBg).fr fy hBg), below_far (bstep hb bAC) (by rw [HG.out]; omega) (by rw [HG.out]; omega)⟩
      clear y20 y21 y30 y31 f20 f21 f30 f31 hHeld k7c q0c q1c
      go_wp2_with fail
      (try simp only [Exit.inBlock, Exit.then])
      exact bodyPost_ret (results_tcc (u := 4) (p := 5) (q := 6) rfl _ _ (g + 1 + 1) (g + 1 + 1 + 1) 25 25 _ _ (0, 0) (0, 0) _ rfl rfl HW.out.1 HW.out.2 Tryd.underlying25 rfl (by kernel_rfl) (by kernel_rfl)) rfl HEE.out
    · have hc0 : (cc != 0) = true := by rw [hcc]; simp only [bne_iff_ne, ne_eq]; intro h; exact hr1 ((cmpZ_zero r1).1 h)
      have HR1 : Hid (r1 ≠ 0) := hr1
      clear hcc hr1
      have HI2 : Hid (I r1 s1 t1 (rz r0 r1) (s0 - r0.tdiv r1 * s1) (t0 - r0.tdiv r1 * t1)) := HI.out _ _ _ _ _ _ HIr.out HR1.out
      have HB2 : Hid (bz r1 s1 t1 (rz r0 r1) (s0 - r0.tdiv r1 * s1) (t0 - r0.tdiv r1 * t1) = BZ) := by show _ = _; rw [← bz_go HR1.out]; exact Hbz.out
      have hS1 := HSZ.out _ _ _ _ _ _ HIr.out
      have hS2 := HSZ.out _ _ _ _ _ _ HI2.out
      have zq := hS1.1.le (tdiv_le r0 r1)
      have HZ : Hid (Sz (r0.tdiv r1 * s1) 800000 ∧ Sz (r0.tdiv r1 * t1) 800000 ∧ Sz (s0 - r0.tdiv r1 * s1) 800000 ∧ Sz (t0 - r0.tdiv r1 * t1) 800000) := ⟨(zq.mul hS1.2.2.2.2.1).mono (by decide), (zq.mul hS1.2.2.2.2.2).mono (by decide), hS2.2.2.2.2.1.mono (by decide), hS2.2.2.2.2.2.mono (by decide)⟩
      clear hS1 hS2 zq
      go_wp2_with fail
      have k7c := k7.cells
      have k8c := k8.cells
      refine region_late [(0, fun w' => w'.cell? ⟨Qq, 0, none⟩ = some (.bool bn0) ∧ w'.cell? ⟨Qq, 1, none⟩ = some (.slice bo0 bl0 bc0) ∧ w'.cell? ⟨Qq, 2, none⟩ = some (.bool bn1) ∧ w'.cell? ⟨Qq, 3, none⟩ = some (.slice bo1 bl1 bc1) ∧ w'.cell? ⟨Qq, 4, none⟩ = some (.bool bn2) ∧ w'.cell? ⟨Qq, 5, none⟩ = some (.slice bo2 bl2 bc2)), (1, fun w' => w'.cell? ⟨P, 0, none⟩ = some (.bool an0) ∧ w'.cell? ⟨P, 1, none⟩ = some (.slice ao0 al0 ac0) ∧ w'.cell? ⟨P, 2, none⟩ = some (.bool an1) ∧ w'.cell? ⟨P, 3, none⟩ = some (.slice ao1 al1 ac1) ∧ w'.cell? ⟨P, 4, none⟩ = some (.bool an2) ∧ w'.cell? ⟨P, 5, none⟩ = some (.slice ao2 al2 ac2)), (2, fun w' => w'.cell? ⟨Qq, 0, none⟩ = some (.bool bn0) ∧ w'.cell? ⟨Qq, 1, none⟩ = some (.slice bo0 bl0 bc0) ∧ w'.cell? ⟨Qq, 2, none⟩ = some (.bool bn1) ∧ w'.cell? ⟨Qq, 3, none⟩ = some (.slice bo1 bl1 bc1) ∧ w'.cell? ⟨Qq, 4, none⟩ = some (.bool bn2) ∧ w'.cell? ⟨Qq, 5, none⟩ = some (.slice bo2 bl2 bc2))] (by kernel_rfl) ?_
      have hHeld : AllL wA.drew [(0, fun w' => w'.cell? ⟨Qq, 0, none⟩ = some (.bool bn0) ∧ w'.cell? ⟨Qq, 1, none⟩ = some (.slice bo0 bl0 bc0) ∧ w'.cell? ⟨Qq, 2, none⟩ = some (.bool bn1) ∧ w'.cell? ⟨Qq, 3, none⟩ = some (.slice bo1 bl1 bc1) ∧ w'.cell? ⟨Qq, 4, none⟩ = some (.bool bn2) ∧ w'.cell? ⟨Qq, 5, none⟩ = some (.slice bo2 bl2 bc2)), (1, fun w' => w'.cell? ⟨P, 0, none⟩ = some (.bool an0) ∧ w'.cell? ⟨P, 1, none⟩ = some (.slice ao0 al0 ac0) ∧ w'.cell? ⟨P, 2, none⟩ = some (.bool an1) ∧ w'.cell? ⟨P, 3, none⟩ = some (.slice ao1 al1 ac1) ∧ w'.cell? ⟨P, 4, none⟩ = some (.bool an2) ∧ w'.cell? ⟨P, 5, none⟩ = some (.slice ao2 al2 ac2)), (2, fun w' => w'.cell? ⟨Qq, 0, none⟩ = some (.bool bn0) ∧ w'.cell? ⟨Qq, 1, none⟩ = some (.slice bo0 bl0 bc0) ∧ w'.cell? ⟨Qq, 2, none⟩ = some (.bool bn1) ∧ w'.cell? ⟨Qq, 3, none⟩ = some (.slice bo1 bl1 bc1) ∧ w'.cell? ⟨Qq, 4, none⟩ = some (.bool bn2) ∧ w'.cell? ⟨Qq, 5, none⟩ = some (.slice bo2 bl2 bc2))] := ⟨k8c, k7c, k8c, trivial⟩
      refine late_take 0 (v := .agg #[.bool bn0, .slice bo0 bl0 bc0, .bool bn1, .slice bo1 bl1 bc1, .bool bn2, .slice bo2 bl2 bc2]) rfl (by kernel_rfl) (List.Mem.head _) (by kernel_rfl) (by kernel_rfl) (by kernel_rfl) (by kernel_rfl) (fun _ _ _ h => h) (Or.inl ⟨by rfl, ?_⟩) hHeld ?_
      · (intro u hu; (try dsimp only at hu); go_split_ands; go_simp)
      (try simp only [Act.put, List.setIfInBounds_toArray, List.set_cons_zero, List.set_cons_succ])
      refine late_take 1 (v := .agg #[.bool an0, .slice ao0 al0 ac0, .bool an1, .slice ao1 al1 ac1, .bool an2, .slice ao2 al2 ac2]) rfl (by kernel_rfl) (List.Mem.tail _ (List.Mem.head _)) (by kernel_rfl) (by kernel_rfl) (by kernel_rfl) (by kernel_rfl) (fun _ _ _ h => h) (Or.inl ⟨by rfl, ?_⟩) hHeld ?_
      · (intro u hu; (try dsimp only at hu); go_split_ands; go_simp)
      (try simp only [Act.put, List.setIfInBounds_toArray, List.set_cons_zero, List.set_cons_succ])
      refine late_take 2 (v := .agg #[.bool bn0, .slice bo0 bl0 bc0, .bool bn1, .slice bo1 bl1 bc1, .bool bn2, .slice bo2 bl2 bc2]) rfl (by kernel_rfl) (List.Mem.tail _ (List.Mem.tail _ (List.Mem.head _))) (by kernel_rfl) (by kernel_rfl) (by kernel_rfl) (by kernel_rfl) (fun _ _ _ h => h) (Or.inl ⟨by rfl, ?_⟩) hHeld ?_
      · (intro u hu; (try dsimp only at hu); go_split_ands; go_simp)
      (try simp only [Act.put, List.setIfInBounds_toArray, List.set_cons_zero, List.set_cons_succ])
      refine late_step 3 (by kernel_rfl) rfl (fun K hK => ?_)
      go_simp
      refine (c_step (w := wA.drew) (G := Qq) hq8 (ra0.1.below (below_drew' _)) (ra1.1.below (below_drew' _)) (ra2.1.below (below_drew' _)) (rb0.1.below (below_drew' _)) (rb1.1.below (below_drew' _)) (rb2.1.below (below_drew' _)) (L := 800000) (by decide) HZ.out.1 HZ.out.2.1 HZ.out.2.2.1 HZ.out.2.2.2).mono ?_
      rintro e wB ⟨n0, m0, n1, m1, n2, m2, rfl, hrow, bB⟩
      obtain ⟨d0, d1, d2⟩ := hrow
      obtain ⟨o0, l0, c0, rfl⟩ := d0.sl
      obtain ⟨o1, l1, c1, rfl⟩ := d1.sl
      obtain ⟨o2, l2, c2, rfl⟩ := d2.sl
      have bAB := bstep (below_drew' wA) bB
      go_wp2_with fail
      refine hK.out _ _ (AllL.kept ⟨(k8.below bAB).cells, (k7.below bAB).cells, (k8.below bAB).cells, trivial⟩) ?_
      clear hK K
      (try simp only [Act.put, List.setIfInBounds_toArray, List.set_cons_zero, List.set_cons_succ])
      replace k7 := k7.below bAB
      replace k8 := k8.below bAB
      obtain ⟨y0, y1, y2, y3, y4, y5⟩ := k7.cells
      obtain ⟨x0, x1, x2, x3, x4, x5⟩ := k8.cells
      have f0 := k7.thaw 0
      have f1 := k7.thaw 1
      have f2 := k7.thaw 2
      have f3 := k7.thaw 3
      have f4 := k7.thaw 4
      have f5 := k7.thaw 5
      have h0 := k8.thaw 0
      have h1 := k8.thaw 1
      have h2 := k8.thaw 2
      have h3 := k8.thaw 3
      have h4 := k8.thaw 4
      have h5 := k8.thaw 5
      have hPQ : ¬ P = Qq := by have := HPQ.out; omega
      have hQP : ¬ Qq = P := by have := HPQ.out; omega
      refine late_step 4 (by kernel_rfl) rfl (fun K hK => ?_)
      go_simp
      refine hK.out _ _ ⟨Or.inl ⟨4, by kernel_rfl, by kernel_rfl⟩, Or.inl ⟨3, by kernel_rfl, by kernel_rfl⟩, Or.inl ⟨3, by kernel_rfl, by kernel_rfl⟩, trivial⟩ ?_
      clear hK K
      (try simp only [Act.put, List.setIfInBounds_toArray, List.set_cons_zero, List.set_cons_succ])
      refine late_step 5 (by kernel_rfl) rfl (fun K hK => ?_)
      go_simp
      refine hK.out _ _ ⟨Or.inl ⟨4, by kernel_rfl, by kernel_rfl⟩, Or.inl ⟨3, by kernel_rfl, by kernel_rfl⟩, Or.inl ⟨3, by kernel_rfl, by kernel_rfl⟩, trivial⟩ ?_
      clear hK K
      (try simp only [Act.put, List.setIfInBounds_toArray, List.set_cons_zero, List.set_cons_succ])
      refine late_done (by kernel_rfl) ?_ _
      obtain ⟨WN, hWN⟩ : ∃ WN, WN = ((((((((((((wB.setCell ⟨P, 0, none⟩ (.bool bn0)).setCell ⟨P, 1, none⟩ (.slice bo0 bl0 bc0)).setCell ⟨P, 2, none⟩ (.bool bn1)).setCell ⟨P, 3, none⟩ (.slice bo1 bl1 bc1)).setCell ⟨P, 4, none⟩ (.bool bn2)).setCell ⟨P, 5, none⟩ (.slice bo2 bl2 bc2)).setCell ⟨Qq, 0, none⟩ (.bool n0)).setCell ⟨Qq, 1, none⟩ (.slice o0 l0 c0)).setCell ⟨Qq, 2, none⟩ (.bool n1)).setCell ⟨Qq, 3, none⟩ (.slice o1 l1 c1)).setCell ⟨Qq, 4, none⟩ (.bool n2)).setCell ⟨Qq, 5, none⟩ (.slice o2 l2 c2)) := ⟨_, rfl⟩
      have HNEW : Hid (BInv I BZ w W1.heap.size g P Qq na nb (.slice ao al ac) (.slice bo bl bc) WN) := by
        have tr := two_rows (k0 := bn0) (v1 := .slice bo0 bl0 bc0) (k1 := bn1) (v3 := .slice bo1 bl1 bc1) (k2 := bn2) (v5 := .slice bo2 bl2 bc2) (j0 := n0) (u1 := .slice o0 l0 c0) (j1 := n1) (u3 := .slice o1 l1 c1) (j2 := n2) (u5 := .slice o2 l2 c2) k7 k8 hPQ
        have hpq := HPQ.out
        have hBg := HB.out
        have hB1 := d0.numR (B := W1.heap.size) (p := P) (by omega) (by omega)
        have hB2 := d1.numR (B := W1.heap.size) (p := P) (by omega) (by omega)
        have hB3 := d2.numR (B := W1.heap.size) (p := P) (by omega) (by omega)
        have e0 := rb0.below bAB
        have e1 := rb1.below bAB
        have e2 := rb2.below bAB
        rw [hWN]
        exact ⟨r1, s1, t1, _, _, _, ⟨_, _, _, _, _, _, _, _, _, _, _, _, tr.1, ⟨e0.1.off12 e0.2.1, e0.2⟩, ⟨e1.1.off12 e1.2.1, e1.2⟩, ⟨e2.1.off12 e2.2.1, e2.2⟩⟩, ⟨_, _, _, _, _, _, _, _, _, _, _, _, tr.2, ⟨hB1.1.off12 hB1.2.1, hB1.2⟩, ⟨hB2.1.off12 hB2.2.1, hB2.2⟩, ⟨hB3.1.off12 hB3.2.1, hB3.2⟩⟩, HI2.out, HB2.out, ⟨(q0.below bAB).off12 (by omega) (by omega), (q1.below bAB).off12 (by omega) (by omega), (q2.below bAB).off12 (by omega) (by omega), (q3.below bAB).off12 (by omega) (by omega)⟩, below12 (bstep hb bAB) (by rw [← HG.out]; omega) (by rw [← HG.out]; omega), by simp only [World.size_setCell]; exact Nat.lt_of_lt_of_le hq8 bAB.size⟩
      have HLT : Hid (rowV WN Qq < r1.natAbs) := by
        have tr := two_rows (k0 := bn0) (v1 := .slice bo0 bl0 bc0) (k1 := bn1) (v3 := .slice bo1 bl1 bc1) (k2 := bn2) (v5 := .slice bo2 bl2 bc2) (j0 := n0) (u1 := .slice o0 l0 c0) (j1 := n1) (u3 := .slice o1 l1 c1) (j2 := n2) (u5 := .slice o2 l2 c2) k7 k8 hPQ
        have hpq := HPQ.out
        have hB1 := d0.numR (B := W1.heap.size) (p := P) (by omega) (by omega)
        have hB2 := d1.numR (B := W1.heap.size) (p := P) (by omega) (by omega)
        have hB3 := d2.numR (B := W1.heap.size) (p := P) (by omega) (by omega)
        show _ < _
        rw [hWN, rowV_eq (B := W1.heap.size) (p := P) (q := Qq) ⟨_, _, _, _, _, _, _, _, _, _, _, _, tr.2, ⟨hB1.1.off12 hB1.2.1, hB1.2⟩, ⟨hB2.1.off12 hB2.2.1, hB2.2⟩, ⟨hB3.1.off12 hB3.2.1, hB3.2⟩⟩]
        exact rz_lt HR1.out
      rw [← hWN]
      clear hWN y0 y1 y2 y3 y4 y5 x0 x1 x2 x3 x4 x5 f0 f1 f2 f3 f4 f5 h0 h1 h2 h3 h4 h5 k7 k8 k7c k8c ra0 ra1 ra2 rb0 rb1 rb2 d0 d1 d2 q0 q1 q2 q3 hb bAB bB hHeld
      go_wp2_with fail
      go_roundw
      case rel => exact HNEW.out
      case measure => rw [HME.out]; exact HLT.out
end Go.Proofs.YtcbfhakolfcmgaaDoor
