/-
  Proved here: what Floor of the document's layer 2 answers.
-/
import Derived.Test.YtfnafgjnimfmjaaGreatDoorRQuo
import Derived.Test.YtfnafgjnimfmjaaGreatDoorLate
namespace Go.Proofs.YtfnafgjnimfmjaaGreatDoor
open Go.RowKit
attribute [local go_sem ↓] Go.wp_at_zero Go.wp_at_succ

theorem own_ne3 {B e g : Nat} {w : World} {m : Value} {xs : List Nat} (h : Own B e w m xs) (hg : g < B) : m.ownBlock = none ∨ m.ownBlock ≠ some g := by
  cases hm : m.ownBlock with
  | none => exact Or.inl rfl
  | some k =>
    right
    intro e9
    have h1 := (h.block k hm).1
    rw [Option.some.injEq] at e9
    omega
theorem own_ne_top {B e : Nat} {w : World} {m : Value} {xs : List Nat} (h : Own B e w m xs) : m.ownBlock = none ∨ m.ownBlock ≠ some w.heap.size := by
  cases hm : m.ownBlock with
  | none => exact Or.inl rfl
  | some k =>
    right
    intro e9
    have h1 := (h.block k hm).2
    rw [Option.some.injEq] at e9
    omega
theorem own_put {B e g : Nat} {w : World} {m v0 v1 : Value} {xs : List Nat} (h : Own B e w m xs) (hne : m.ownBlock = none ∨ m.ownBlock ≠ some g) : Own B e ((w.setCell ⟨g, 0, none⟩ v0).setCell ⟨g, 1, none⟩ v1) m xs := (h.other v0 hne).other v1 hne
theorem icell_put {w : World} {g g2 : Nat} {n : Bool} {m v0 v1 : Value} (h : ICell w g n m) (hne : g ≠ g2) : ICell ((w.setCell ⟨g2, 0, none⟩ v0).setCell ⟨g2, 1, none⟩ v1) g n m := (h.other hne 0 v0).other hne 1 v1
theorem up_iff (R : Int) {y : Int} (hy : ¬ y = 0) : cmpZ R 0 * cmpZ y 0 < 0 ↔ cmpZ R 0 ≠ 0 ∧ cmpZ R 0 ≠ cmpZ y 0 := by
  have h2 : cmpZ y 0 ≠ 0 := by
    intro h
    have h9 := cmpZ_eq y 0
    rw [h, decide_eq_false hy] at h9
    exact absurd h9 (by decide)
  rcases cmpZ_bd R 0 with h | h | h <;> rcases cmpZ_bd y 0 with h3 | h3 | h3 <;> rw [h, h3] <;> first | exact absurd h3 h2 | decide

set_option maxRecDepth 100000 in
set_option maxHeartbeats 6400000 in
theorem rfloor {a b : Value} {x y : Int} {L M : Nat} {w : World} (hia : IB w a x L) (hib : IB w b y M) (hL : L + M ≤ 1000) : Calls Tryz.prog 59 #[a, b] w fun e w' => QEnd w (fq x y) (fr x y) (errZ y.natAbs) e w' := by
  have ha := hia.num (by omega)
  have hb' := hib.num (by omega)
  obtain ⟨na, ao, al, ac, xa, rfl, ua, la, za⟩ := ha
  have ha : INum w (.agg #[.bool na, .slice ao al ac]) x := ⟨_, _, _, _, _, rfl, ua, la, za⟩
  clear ua la za
  obtain ⟨nb, bo, bl, bc, xb, rfl, ub, lb, zb⟩ := hb'
  have hb' : INum w (.agg #[.bool nb, .slice bo bl bc]) y := ⟨_, _, _, _, _, rfl, ub, lb, zb⟩
  clear ub lb zb
  have hib0 := hib
  obtain ⟨W1, hW1⟩ : ∃ W1, W1 = (((w.alloc (.cells #[.bool na, .slice ao al ac] 25)).alloc (.cells #[.bool nb, .slice bo bl bc] 25)).alloc (.cells #[.bool false, .slice none 0 0] 25)).alloc (.cells #[.bool false, .slice none 0 0] 25) := ⟨_, rfl⟩
  have q0 : ICell W1 (w.heap.size) na (.slice ao al ac) := by rw [hW1]; exact (icell_step (icell_step (icell_step (icell_new _ (by simp)))))
  have q1 : ICell W1 (w.heap.size + 1) nb (.slice bo bl bc) := by rw [hW1]; exact (icell_step (icell_step (icell_new _ (by simp))))
  have q2 : ICell W1 (w.heap.size + 1 + 1) false (.slice none 0 0) := by rw [hW1]; exact (icell_step (icell_new _ (by simp)))
  have q3 : ICell W1 (w.heap.size + 1 + 1 + 1) false (.slice none 0 0) := by rw [hW1]; exact (icell_new _ (by simp))
  have hb : Below w.heap.size w W1 := by rw [hW1]; exact bstep (bstep (bstep (belowA w _) (belowA _ _)) (belowA _ _)) (belowA _ _)
  have hsz : w.heap.size + 1 + 1 + 1 < W1.heap.size := by rw [hW1]; simp
  replace ha := ha.below hb
  replace hb' := hb'.below hb
  replace hia := hia.below hb
  replace hib := hib.below hb
  have HW1 : Hid (W1 = (((w.alloc (.cells #[.bool na, .slice ao al ac] 25)).alloc (.cells #[.bool nb, .slice bo bl bc] 25)).alloc (.cells #[.bool false, .slice none 0 0] 25)).alloc (.cells #[.bool false, .slice none 0 0] 25)) := hW1
  clear hW1
  obtain ⟨FQ, hFQ⟩ : ∃ Q, Q = fq x y := ⟨_, rfl⟩
  obtain ⟨FR, hFR⟩ : ∃ R, R = fr x y := ⟨_, rfl⟩
  have HFQ : Hid (FQ = fq x y) := hFQ
  have HFR : Hid (FR = fr x y) := hFR
  rw [← hFQ, ← hFR]
  clear hFQ hFR
  obtain ⟨E, hE⟩ : ∃ E, E = errZ y.natAbs := ⟨_, rfl⟩
  have HEE : Hid (E = errZ y.natAbs) := hE
  rw [← hE]
  clear hE
  go_enter Tryz.func59, Tryz.ntmps59
  go_wp2_with fail
  rw [← HW1.out]
  clear HW1
  obtain ⟨g, hg⟩ : ∃ g, g = w.heap.size := ⟨_, rfl⟩
  rw [← hg] at q0 q1 q2 q3 hsz ⊢
  have HG : Hid (g = w.heap.size) := hg
  clear hg
  refine (rquo hia hib hL).mono ?_
  rintro e w2 ⟨mq, mr, rfl, hq, hr, hqr, hb2⟩
  obtain ⟨qo, ql, qc, rfl⟩ := hq.sl
  obtain ⟨ro, rl, rc, rfl⟩ := hr.sl
  rw [← HEE.out]
  obtain ⟨Q, hQ⟩ : ∃ Q, Q = x.tdiv y := ⟨_, rfl⟩
  obtain ⟨R, hR⟩ : ∃ R, R = rz x y := ⟨_, rfl⟩
  have HQ : Hid (Q = x.tdiv y) := hQ
  have HR : Hid (R = rz x y) := hR
  have sQ : Sz Q 1000000 := by rw [hQ]; exact ha.sz.le (tdiv_le x y)
  have sR : Sz R 1000000 := by rw [hR]; exact ha.sz.le (rz_le x y)
  rw [← hQ, ← hR]
  rw [← hQ] at hq
  rw [← hR] at hr
  clear hQ hR
  have iQ := INum.mk' hq sQ
  have iR := INum.mk' hr sR
  obtain ⟨bq, hbq⟩ : ∃ b, b = decide (Q < 0) := ⟨_, rfl⟩
  obtain ⟨br, hbr⟩ : ∃ b, b = decide (R < 0) := ⟨_, rfl⟩
  have HBQ : Hid (bq = decide (Q < 0)) := hbq
  have HBR : Hid (br = decide (R < 0)) := hbr
  rw [← hbq] at iQ
  rw [← hbr] at iR
  rw [← hbq, ← hbr]
  clear hbq hbr
  replace q1 := q1.below hb2
  replace q2 := q2.below hb2
  replace q3 := q3.below hb2
  replace hb := bstep hb hb2
  replace hb' := hb'.below hb2
  have HSZ : Hid (g + 1 + 1 + 1 < W1.heap.size) := hsz
  have hsz2 := Nat.lt_of_lt_of_le hsz hb2.size
  have HL2 : Hid (W1.heap.size ≤ w2.heap.size) := hb2.size
  have HNR : Hid ((Value.slice ro rl rc).ownBlock = none ∨ (Value.slice ro rl rc).ownBlock ≠ some w2.heap.size) := own_ne_top hr
  clear hsz hb2 ha q0 hia hib
  obtain ⟨W3, hW3⟩ : ∃ W3, W3 = (w2.alloc (.cells #[.bool bq, .slice qo ql qc] 25)).alloc (.cells #[.bool br, .slice ro rl rc] 25) := ⟨_, rfl⟩
  have p0 : ICell W3 (w2.heap.size) bq (.slice qo ql qc) := by rw [hW3]; exact icell_step (icell_new _ rfl)
  have p1 : ICell W3 (w2.heap.size + 1) br (.slice ro rl rc) := by rw [hW3]; exact icell_new _ (by simp)
  have hb3 : Below w2.heap.size w2 W3 := by rw [hW3]; exact bstep (belowA w2 _) (belowA _ _)
  have hsz3 : w2.heap.size + 1 < W3.heap.size := by rw [hW3]; simp
  replace q1 := q1.below hb3
  replace q2 := q2.below hb3
  replace q3 := q3.below hb3
  replace hb := bstep hb hb3
  replace hb' := hb'.below hb3
  replace iQ := iQ.below hb3
  replace iR := iR.below hb3
  replace hq := hq.below hb3
  replace hr := hr.below hb3
  have HLW0 : Hid (W1.heap.size ≤ W3.heap.size) := Nat.le_trans HL2.out hb3.size
  have HW3 : Hid (W3 = (w2.alloc (.cells #[.bool bq, .slice qo ql qc] 25)).alloc (.cells #[.bool br, .slice ro rl rc] 25)) := hW3
  clear hW3 hb3
  obtain ⟨v, hv⟩ : ∃ v, v = w2.heap.size := ⟨_, rfl⟩
  rw [← hv] at p0 p1 hsz2 hsz3
  have HV : Hid (v = w2.heap.size) := hv
  by_cases hy : y = 0
  · have HZ0 : Hid (E = 11 ∧ Q = FQ ∧ R = FR) := by
      have h0 : rz x y = 0 := by unfold rz; rw [if_pos hy]
      have h1 : ¬ fup x y := by unfold fup; rw [h0]; simp [cmpZ]
      exact ⟨by rw [HEE.out, hy]; rfl, by rw [HQ.out, HFQ.out]; unfold fq; rw [if_neg h1], by rw [HR.out, HFR.out]; unfold fr; rw [if_neg h1]⟩
    obtain ⟨hE0, hQ0, hR0⟩ := HZ0.out
    subst hE0
    subst hQ0
    subst hR0
    clear HZ0 hy
    go_wp2_with fail
    rw [← HW3.out, ← hv]
    clear hv
    have p0' := p0
    have p1' := p1
    have q2' := q2
    have q3' := q3
    have hq' := hq
    have hr' := hr
    have hbn := hb
    clear p0 p1 q2 q3 hq hr hb
    obtain ⟨e0, e1⟩ := p0'.cells
    obtain ⟨e2, e3⟩ := p1'.cells
    obtain ⟨y20, y21⟩ := q2'.cells
    obtain ⟨y30, y31⟩ := q3'.cells
    have f20 := q2'.thaw 0
    have f21 := q2'.thaw 1
    have f30 := q3'.thaw 0
    have f31 := q3'.thaw 1
    have hne1 : ¬ v = g + 1 + 1 := by omega
    have hne2 : ¬ v = g + 1 + 1 + 1 := by omega
    have hne3 : ¬ v + 1 = g + 1 + 1 := by omega
    have hne4 : ¬ v + 1 = g + 1 + 1 + 1 := by omega
    have HW := icell_two (k1 := bq) (k2 := br) (v1 := .slice qo ql qc) (v2 := .slice ro rl rc) (show ICell W3.drew (g + 1 + 1) false (.slice none 0 0) from q2') (show ICell W3.drew (g + 1 + 1 + 1) false (.slice none 0 0) from q3') (by omega)
    have HW2 : Hid _ := HW
    clear HW
    have HE0 := quo_done (w := w) (wr := W3.drew) (B := W1.heap.size) (q := Q) (r := R) (er := 11) (g := g + 1 + 1) (g2 := g + 1 + 1 + 1) (v0 := .bool bq) (v1 := .slice qo ql qc) (u0 := .bool br) (u1 := .slice ro rl rc) (hq'.same rfl) (hr'.same rfl) hqr (by rw [HG.out]; omega) (by rw [HG.out]; omega) (by have := HSZ.out; omega) HSZ.out (bstep hbn (below_drew' _))
    rw [← HBQ.out, ← HBR.out] at HE0
    have HE : Hid (QEnd w Q R 11 _ _) := HE0
    clear HE0
    refine region_late [(0, fun w' => w'.cell? ⟨v, 0, none⟩ = some (.bool bq) ∧ w'.cell? ⟨v, 1, none⟩ = some (.slice qo ql qc)), (1, fun w' => w'.cell? ⟨v + 1, 0, none⟩ = some (.bool br) ∧ w'.cell? ⟨v + 1, 1, none⟩ = some (.slice ro rl rc)), (2, fun _ => True)] (by kernel_rfl) ?_
    have hHeld : AllL W3.drew [(0, fun w' => w'.cell? ⟨v, 0, none⟩ = some (.bool bq) ∧ w'.cell? ⟨v, 1, none⟩ = some (.slice qo ql qc)), (1, fun w' => w'.cell? ⟨v + 1, 0, none⟩ = some (.bool br) ∧ w'.cell? ⟨v + 1, 1, none⟩ = some (.slice ro rl rc)), (2, fun _ => True)] := ⟨(show ICell W3.drew v bq (.slice qo ql qc) from p0').cells, (show ICell W3.drew (v + 1) br (.slice ro rl rc) from p1').cells, trivial, trivial⟩
    refine late_tk 0 (v := .agg #[.bool bq, .slice qo ql qc]) rfl (List.Mem.head _) (Or.inl ⟨by rfl, ?_⟩) hHeld ?_
    · (intro u hu; (try dsimp only at hu); go_split_ands; go_simp)
    (try simp only [Act.put, putA, putB, putC])
    refine late_tk 1 (v := .agg #[.bool br, .slice ro rl rc]) rfl (List.Mem.tail _ (List.Mem.head _)) (Or.inl ⟨by rfl, ?_⟩) hHeld ?_
    · (intro u hu; (try dsimp only at hu); go_split_ands; go_simp)
    (try simp only [Act.put, putA, putB, putC])
    refine late_tk 2 (v := .int .i64 11) rfl (List.Mem.tail _ (List.Mem.tail _ (List.Mem.head _))) (Or.inl ⟨by rfl, ?_⟩) hHeld ?_
    · (intro u hu; (try dsimp only at hu); go_split_ands; go_simp)
    (try simp only [Act.put, putA, putB, putC])
    refine late_st 3 rfl (fun K hK => ?_)
    go_simp
    refine hK.out _ _ ⟨kpt 3, Or.inr ⟨keepS hne3 hHeld.2.1.1, keepS hne3 hHeld.2.1.2⟩, Or.inr trivial, trivial⟩ ?_
    clear hK K
    (try simp only [Act.put, putA, putB, putC])
    refine late_st 4 rfl (fun K hK => ?_)
    go_simp
    refine hK.out _ _ ⟨kpt 3, kpt 4, Or.inr trivial, trivial⟩ ?_
    clear hK K
    (try simp only [Act.put, putA, putB, putC])
    refine late_st 5 rfl (fun K hK => ?_)
    go_simp
    refine hK.out _ _ ⟨kpt 3, kpt 4, kpt 5, trivial⟩ ?_
    clear hK K
    (try simp only [Act.put, putA, putB, putC])
    refine late_done (by kernel_rfl) ?_ _
    clear e0 e1 e2 e3 y20 y21 y30 y31 f20 f21 f30 f31 hHeld
    go_wp2_with fail
    (try simp only [Exit.inBlock, Exit.then])
    exact bodyPost_ret (results_cct (p := 4) (q := 5) (u := 6) rfl _ _ (g + 1 + 1) (g + 1 + 1 + 1) 25 25 _ _ (0, 0) (0, 0) _ rfl rfl HW2.out.1 HW2.out.2 Tryz.underlying25 rfl (by kernel_rfl) (by kernel_rfl)) rfl HE.out
  · have HZ0 : Hid (E = 0) := by show _ = _; rw [HEE.out]; unfold errZ; rw [if_neg (by omega)]
    have hE0 := HZ0.out
    subst hE0
    clear HZ0
    obtain ⟨s1, hs1⟩ : ∃ s, s = cmpZ R 0 := ⟨_, rfl⟩
    obtain ⟨s2, hs2⟩ : ∃ s, s = cmpZ y 0 := ⟨_, rfl⟩
    have HS1 : Hid (cmpZ R 0 = s1) := hs1.symm
    have HS2 : Hid (cmpZ y 0 = s2) := hs2.symm
    have HP : Hid (fup x y ↔ s1 ≠ 0 ∧ s1 ≠ s2) := by show _ ↔ _; unfold fup; rw [← HR.out, hs1, hs2]; exact up_iff R hy
    clear hs1 hs2 hy
    go_wp2_with fail
    rw [← HW3.out, ← hv]
    clear hv
    by_cases h0 : s1 = 0
    · have HFQ2 : Hid (Q = FQ) := by show _ = _; rw [HQ.out, HFQ.out]; unfold fq; rw [if_neg (fun h => (HP.out.1 h).1 h0)]
      have HFR2 : Hid (R = FR) := by show _ = _; rw [HR.out, HFR.out]; unfold fr; rw [if_neg (fun h => (HP.out.1 h).1 h0)]
      obtain hQ0 := HFQ2.out
      obtain hR0 := HFR2.out
      subst hQ0
      subst hR0
      have hs0 : (s1 == 0) = true := by rw [h0]; rfl
      have hs9 : (s1 != 0) = false := by rw [h0]; rfl
      clear h0
      refine region_late [(0, fun w' => w'.cell? ⟨v + 1, 0, none⟩ = some (.bool br) ∧ w'.cell? ⟨v + 1, 1, none⟩ = some (.slice ro rl rc)), (4, fun w' => w'.cell? ⟨v + 1, 0, none⟩ = some (.bool br) ∧ w'.cell? ⟨v + 1, 1, none⟩ = some (.slice ro rl rc)), (6, fun w' => w'.cell? ⟨g + 1, 0, none⟩ = some (.bool nb) ∧ w'.cell? ⟨g + 1, 1, none⟩ = some (.slice bo bl bc))] (by kernel_rfl) ?_
      have hHeld : AllL W3.drew [(0, fun w' => w'.cell? ⟨v + 1, 0, none⟩ = some (.bool br) ∧ w'.cell? ⟨v + 1, 1, none⟩ = some (.slice ro rl rc)), (4, fun w' => w'.cell? ⟨v + 1, 0, none⟩ = some (.bool br) ∧ w'.cell? ⟨v + 1, 1, none⟩ = some (.slice ro rl rc)), (6, fun w' => w'.cell? ⟨g + 1, 0, none⟩ = some (.bool nb) ∧ w'.cell? ⟨g + 1, 1, none⟩ = some (.slice bo bl bc))] := ⟨(show ICell W3.drew (v + 1) br (.slice ro rl rc) from p1).cells, (show ICell W3.drew (v + 1) br (.slice ro rl rc) from p1).cells, (show ICell W3.drew (g + 1) nb (.slice bo bl bc) from q1).cells, trivial⟩
      refine late_tk 0 (v := .agg #[.bool br, .slice ro rl rc]) rfl (List.Mem.head _) (Or.inl ⟨by rfl, ?_⟩) hHeld ?_
      · (intro u hu; (try dsimp only at hu); go_split_ands; go_simp)
      (try simp only [Act.put, putA, putB, putC])
      refine late_st 1 rfl (fun K hK => ?_)
      go_simp
      refine (r_sign (iR.below (below_drew' _))).mono ?_
      rw [HS1.out]
      rintro e w4 ⟨rfl, b4⟩
      have B4 : Below W3.heap.size W3 w4 := bstep (below_drew' _) b4
      clear hHeld
      have hHeld : AllL w4 [(0, fun w' => w'.cell? ⟨v + 1, 0, none⟩ = some (.bool br) ∧ w'.cell? ⟨v + 1, 1, none⟩ = some (.slice ro rl rc)), (4, fun w' => w'.cell? ⟨v + 1, 0, none⟩ = some (.bool br) ∧ w'.cell? ⟨v + 1, 1, none⟩ = some (.slice ro rl rc)), (6, fun w' => w'.cell? ⟨g + 1, 0, none⟩ = some (.bool nb) ∧ w'.cell? ⟨g + 1, 1, none⟩ = some (.slice bo bl bc))] := ⟨(p1.below B4).cells, (p1.below B4).cells, (q1.below B4).cells, trivial⟩
      go_wp2_with fail
      refine hK.out _ _ (AllL.kept hHeld) ?_
      clear hK K
      (try simp only [Act.put, putA, putB, putC])
      refine late_fr 2 (v := .bool false) rfl (Or.inl ⟨by rfl, ?_⟩) hHeld ?_
      · (intro u _; go_simp)
      (try simp only [Act.put, putA, putB, putC])
      refine late_fr 3 (v := .bool false) rfl (Or.inl ⟨by rfl, ?_⟩) hHeld ?_
      · (intro u _; go_simp)
      (try simp only [Act.put, putA, putB, putC])
      refine late_fr 4 (v := undef) rfl (Or.inr ⟨by rfl, rfl⟩) hHeld ?_
      (try simp only [Act.put, putA, putB, putC])
      refine late_fr 6 (v := undef) rfl (Or.inr ⟨by rfl, rfl⟩) hHeld ?_
      (try simp only [Act.put, putA, putB, putC])
      refine late_st 5 rfl (fun K hK => ?_)
      go_simp
      refine hK.out _ _ (AllL.kept hHeld) ?_
      clear hK K
      (try simp only [Act.put, putA, putB, putC])
      refine late_st 7 rfl (fun K hK => ?_)
      go_simp
      refine hK.out _ _ (AllL.kept hHeld) ?_
      clear hK K
      (try simp only [Act.put, putA, putB, putC])
      refine late_fr 8 (v := undef) rfl (Or.inr ⟨by rfl, rfl⟩) hHeld ?_
      (try simp only [Act.put, putA, putB, putC])
      refine late_fr 9 (v := .bool false) rfl (Or.inl ⟨by rfl, ?_⟩) hHeld ?_
      · (intro u _; go_simp)
      (try simp only [Act.put, putA, putB, putC])
      refine late_done (by kernel_rfl) ?_ _
      clear hHeld
      replace q1 := q1.below B4
      replace q2 := q2.below B4
      replace q3 := q3.below B4
      replace p0 := p0.below B4
      replace p1 := p1.below B4
      replace hq := hq.below B4
      replace hr := hr.below B4
      replace iQ := iQ.below B4
      replace iR := iR.below B4
      replace hb' := hb'.below B4
      replace hb := bstep hb B4
      have HLW : Hid (W1.heap.size ≤ w4.heap.size) := Nat.le_trans HLW0.out B4.size
      replace hsz3 := Nat.lt_of_lt_of_le hsz3 B4.size
      clear b4 B4
      clear hs0 hs9
      go_wp2_with fail
      obtain ⟨e0, e1⟩ := p0.cells
      obtain ⟨e2, e3⟩ := p1.cells
      obtain ⟨y20, y21⟩ := q2.cells
      obtain ⟨y30, y31⟩ := q3.cells
      have f20 := q2.thaw 0
      have f21 := q2.thaw 1
      have f30 := q3.thaw 0
      have f31 := q3.thaw 1
      have hne1 : ¬ v = g + 1 + 1 := by omega
      have hne2 : ¬ v = g + 1 + 1 + 1 := by omega
      have hne3 : ¬ v + 1 = g + 1 + 1 := by omega
      have hne4 : ¬ v + 1 = g + 1 + 1 + 1 := by omega
      have HW := icell_two (k1 := bq) (k2 := br) (v1 := .slice qo ql qc) (v2 := .slice ro rl rc) (show ICell w4.drew (g + 1 + 1) false (.slice none 0 0) from q2) (show ICell w4.drew (g + 1 + 1 + 1) false (.slice none 0 0) from q3) (by omega)
      have HW2 : Hid _ := HW
      clear HW
      have HE0 := quo_done (w := w) (wr := w4.drew) (B := W1.heap.size) (q := Q) (r := R) (er := 0) (g := g + 1 + 1) (g2 := g + 1 + 1 + 1) (v0 := .bool bq) (v1 := .slice qo ql qc) (u0 := .bool br) (u1 := .slice ro rl rc) (hq.same rfl) (hr.same rfl) hqr (by rw [HG.out]; omega) (by rw [HG.out]; omega) (by have := HSZ.out; omega) HSZ.out (bstep hb (below_drew' _))
      rw [← HBQ.out, ← HBR.out] at HE0
      have HE : Hid (QEnd w Q R 0 _ _) := HE0
      clear HE0
      refine region_late [(0, fun w' => w'.cell? ⟨v, 0, none⟩ = some (.bool bq) ∧ w'.cell? ⟨v, 1, none⟩ = some (.slice qo ql qc)), (1, fun w' => w'.cell? ⟨v + 1, 0, none⟩ = some (.bool br) ∧ w'.cell? ⟨v + 1, 1, none⟩ = some (.slice ro rl rc))] (by kernel_rfl) ?_
      have hHeld : AllL w4.drew [(0, fun w' => w'.cell? ⟨v, 0, none⟩ = some (.bool bq) ∧ w'.cell? ⟨v, 1, none⟩ = some (.slice qo ql qc)), (1, fun w' => w'.cell? ⟨v + 1, 0, none⟩ = some (.bool br) ∧ w'.cell? ⟨v + 1, 1, none⟩ = some (.slice ro rl rc))] := ⟨(show ICell w4.drew v bq (.slice qo ql qc) from p0).cells, (show ICell w4.drew (v + 1) br (.slice ro rl rc) from p1).cells, trivial⟩
      refine late_tk 0 (v := .agg #[.bool bq, .slice qo ql qc]) rfl (List.Mem.head _) (Or.inl ⟨by rfl, ?_⟩) hHeld ?_
      · (intro u hu; (try dsimp only at hu); go_split_ands; go_simp)
      (try simp only [Act.put, putA, putB, putC])
      refine late_tk 1 (v := .agg #[.bool br, .slice ro rl rc]) rfl (List.Mem.tail _ (List.Mem.head _)) (Or.inl ⟨by rfl, ?_⟩) hHeld ?_
      · (intro u hu; (try dsimp only at hu); go_split_ands; go_simp)
      (try simp only [Act.put, putA, putB, putC])
      refine late_st 2 rfl (fun K hK => ?_)
      go_simp
      refine hK.out _ _ ⟨kpt 2, Or.inr ⟨keepS hne3 hHeld.2.1.1, keepS hne3 hHeld.2.1.2⟩, trivial⟩ ?_
      clear hK K
      (try simp only [Act.put, putA, putB, putC])
      refine late_st 3 rfl (fun K hK => ?_)
      go_simp
      refine hK.out _ _ ⟨kpt 2, kpt 3, trivial⟩ ?_
      clear hK K
      (try simp only [Act.put, putA, putB, putC])
      refine late_st 4 rfl (fun K hK => ?_)
      go_simp
      refine hK.out _ _ ⟨kpt 2, kpt 3, trivial⟩ ?_
      clear hK K
      (try simp only [Act.put, putA, putB, putC])
      refine late_done (by kernel_rfl) ?_ _
      clear e0 e1 e2 e3 y20 y21 y30 y31 f20 f21 f30 f31 hHeld
      go_wp2_with fail
      (try simp only [Exit.inBlock, Exit.then])
      exact bodyPost_ret (results_cct (p := 4) (q := 5) (u := 6) rfl _ _ (g + 1 + 1) (g + 1 + 1 + 1) 25 25 _ _ (0, 0) (0, 0) _ rfl rfl HW2.out.1 HW2.out.2 Tryz.underlying25 rfl (by kernel_rfl) (by kernel_rfl)) rfl HE.out
    · by_cases h1 : s1 = s2
      · have HFQ2 : Hid (Q = FQ) := by show _ = _; rw [HQ.out, HFQ.out]; unfold fq; rw [if_neg (fun h => (HP.out.1 h).2 h1)]
        have HFR2 : Hid (R = FR) := by show _ = _; rw [HR.out, HFR.out]; unfold fr; rw [if_neg (fun h => (HP.out.1 h).2 h1)]
        obtain hQ0 := HFQ2.out
        obtain hR0 := HFR2.out
        subst hQ0
        subst hR0
        have hs0 : (s1 == 0) = false := by simpa using h0
        have hs9 : (s1 != 0) = true := by simpa using h0
        have hs1 : (s1 == s2) = true := by rw [h1]; simp
        have hs2 : (s1 != s2) = false := by rw [h1]; simp
        clear h0 h1
        refine region_late [(0, fun w' => w'.cell? ⟨v + 1, 0, none⟩ = some (.bool br) ∧ w'.cell? ⟨v + 1, 1, none⟩ = some (.slice ro rl rc)), (4, fun w' => w'.cell? ⟨v + 1, 0, none⟩ = some (.bool br) ∧ w'.cell? ⟨v + 1, 1, none⟩ = some (.slice ro rl rc)), (6, fun w' => w'.cell? ⟨g + 1, 0, none⟩ = some (.bool nb) ∧ w'.cell? ⟨g + 1, 1, none⟩ = some (.slice bo bl bc))] (by kernel_rfl) ?_
        have hHeld : AllL W3.drew [(0, fun w' => w'.cell? ⟨v + 1, 0, none⟩ = some (.bool br) ∧ w'.cell? ⟨v + 1, 1, none⟩ = some (.slice ro rl rc)), (4, fun w' => w'.cell? ⟨v + 1, 0, none⟩ = some (.bool br) ∧ w'.cell? ⟨v + 1, 1, none⟩ = some (.slice ro rl rc)), (6, fun w' => w'.cell? ⟨g + 1, 0, none⟩ = some (.bool nb) ∧ w'.cell? ⟨g + 1, 1, none⟩ = some (.slice bo bl bc))] := ⟨(show ICell W3.drew (v + 1) br (.slice ro rl rc) from p1).cells, (show ICell W3.drew (v + 1) br (.slice ro rl rc) from p1).cells, (show ICell W3.drew (g + 1) nb (.slice bo bl bc) from q1).cells, trivial⟩
        refine late_tk 0 (v := .agg #[.bool br, .slice ro rl rc]) rfl (List.Mem.head _) (Or.inl ⟨by rfl, ?_⟩) hHeld ?_
        · (intro u hu; (try dsimp only at hu); go_split_ands; go_simp)
        (try simp only [Act.put, putA, putB, putC])
        refine late_st 1 rfl (fun K hK => ?_)
        go_simp
        refine (r_sign (iR.below (below_drew' _))).mono ?_
        rw [HS1.out]
        rintro e w4 ⟨rfl, b4⟩
        have B4 : Below W3.heap.size W3 w4 := bstep (below_drew' _) b4
        clear hHeld
        have hHeld : AllL w4 [(0, fun w' => w'.cell? ⟨v + 1, 0, none⟩ = some (.bool br) ∧ w'.cell? ⟨v + 1, 1, none⟩ = some (.slice ro rl rc)), (4, fun w' => w'.cell? ⟨v + 1, 0, none⟩ = some (.bool br) ∧ w'.cell? ⟨v + 1, 1, none⟩ = some (.slice ro rl rc)), (6, fun w' => w'.cell? ⟨g + 1, 0, none⟩ = some (.bool nb) ∧ w'.cell? ⟨g + 1, 1, none⟩ = some (.slice bo bl bc))] := ⟨(p1.below B4).cells, (p1.below B4).cells, (q1.below B4).cells, trivial⟩
        go_wp2_with fail
        refine hK.out _ _ (AllL.kept hHeld) ?_
        clear hK K
        (try simp only [Act.put, putA, putB, putC])
        refine late_fr 2 (v := .bool true) rfl (Or.inl ⟨by rfl, ?_⟩) hHeld ?_
        · (intro u _; go_simp)
        (try simp only [Act.put, putA, putB, putC])
        refine late_fr 3 (v := .bool true) rfl (Or.inl ⟨by rfl, ?_⟩) hHeld ?_
        · (intro u _; go_simp)
        (try simp only [Act.put, putA, putB, putC])
        refine late_tk 4 (v := .agg #[.bool br, .slice ro rl rc]) rfl (List.Mem.tail _ (List.Mem.head _)) (Or.inl ⟨by rfl, ?_⟩) hHeld ?_
        · (intro u hu; (try dsimp only at hu); go_split_ands; go_simp)
        (try simp only [Act.put, putA, putB, putC])
        refine late_tk 6 (v := .agg #[.bool nb, .slice bo bl bc]) rfl (List.Mem.tail _ (List.Mem.tail _ (List.Mem.head _))) (Or.inl ⟨by rfl, ?_⟩) hHeld ?_
        · (intro u hu; (try dsimp only at hu); go_split_ands; go_simp)
        (try simp only [Act.put, putA, putB, putC])
        refine late_st 5 rfl (fun K hK => ?_)
        go_simp
        refine (r_sign (iR.below B4)).mono ?_
        rw [HS1.out]
        rintro e w5 ⟨rfl, b5⟩
        have B5 : Below W3.heap.size W3 w5 := bstep B4 b5
        clear hHeld
        have hHeld : AllL w5 [(0, fun w' => w'.cell? ⟨v + 1, 0, none⟩ = some (.bool br) ∧ w'.cell? ⟨v + 1, 1, none⟩ = some (.slice ro rl rc)), (4, fun w' => w'.cell? ⟨v + 1, 0, none⟩ = some (.bool br) ∧ w'.cell? ⟨v + 1, 1, none⟩ = some (.slice ro rl rc)), (6, fun w' => w'.cell? ⟨g + 1, 0, none⟩ = some (.bool nb) ∧ w'.cell? ⟨g + 1, 1, none⟩ = some (.slice bo bl bc))] := ⟨(p1.below B5).cells, (p1.below B5).cells, (q1.below B5).cells, trivial⟩
        go_wp2_with fail
        refine hK.out _ _ (AllL.kept hHeld) ?_
        clear hK K
        (try simp only [Act.put, putA, putB, putC])
        refine late_st 7 rfl (fun K hK => ?_)
        go_simp
        refine (r_sign (hb'.below B5)).mono ?_
        rw [HS2.out]
        rintro e w6 ⟨rfl, b6⟩
        have B6 : Below W3.heap.size W3 w6 := bstep B5 b6
        clear hHeld
        have hHeld : AllL w6 [(0, fun w' => w'.cell? ⟨v + 1, 0, none⟩ = some (.bool br) ∧ w'.cell? ⟨v + 1, 1, none⟩ = some (.slice ro rl rc)), (4, fun w' => w'.cell? ⟨v + 1, 0, none⟩ = some (.bool br) ∧ w'.cell? ⟨v + 1, 1, none⟩ = some (.slice ro rl rc)), (6, fun w' => w'.cell? ⟨g + 1, 0, none⟩ = some (.bool nb) ∧ w'.cell? ⟨g + 1, 1, none⟩ = some (.slice bo bl bc))] := ⟨(p1.below B6).cells, (p1.below B6).cells, (q1.below B6).cells, trivial⟩
        go_wp2_with fail
        refine hK.out _ _ (AllL.kept hHeld) ?_
        clear hK K
        (try simp only [Act.put, putA, putB, putC])
        refine late_fr 8 (v := .bool false) rfl (Or.inl ⟨by rfl, ?_⟩) hHeld ?_
        · (intro u _; go_simp)
        (try simp only [Act.put, putA, putB, putC])
        refine late_fr 9 (v := .bool false) rfl (Or.inl ⟨by rfl, ?_⟩) hHeld ?_
        · (intro u _; go_simp)
        (try simp only [Act.put, putA, putB, putC])
        refine late_done (by kernel_rfl) ?_ _
        clear hHeld
        replace q1 := q1.below B6
        replace q2 := q2.below B6
        replace q3 := q3.below B6
        replace p0 := p0.below B6
        replace p1 := p1.below B6
        replace hq := hq.below B6
        replace hr := hr.below B6
        replace iQ := iQ.below B6
        replace iR := iR.below B6
        replace hb' := hb'.below B6
        replace hb := bstep hb B6
        have HLW : Hid (W1.heap.size ≤ w6.heap.size) := Nat.le_trans HLW0.out B6.size
        replace hsz3 := Nat.lt_of_lt_of_le hsz3 B6.size
        clear b4 B4 b5 B5 b6 B6
        clear hs0 hs9 hs1 hs2
        go_wp2_with fail
        obtain ⟨e0, e1⟩ := p0.cells
        obtain ⟨e2, e3⟩ := p1.cells
        obtain ⟨y20, y21⟩ := q2.cells
        obtain ⟨y30, y31⟩ := q3.cells
        have f20 := q2.thaw 0
        have f21 := q2.thaw 1
        have f30 := q3.thaw 0
        have f31 := q3.thaw 1
        have hne1 : ¬ v = g + 1 + 1 := by omega
        have hne2 : ¬ v = g + 1 + 1 + 1 := by omega
        have hne3 : ¬ v + 1 = g + 1 + 1 := by omega
        have hne4 : ¬ v + 1 = g + 1 + 1 + 1 := by omega
        have HW := icell_two (k1 := bq) (k2 := br) (v1 := .slice qo ql qc) (v2 := .slice ro rl rc) (show ICell w6.drew (g + 1 + 1) false (.slice none 0 0) from q2) (show ICell w6.drew (g + 1 + 1 + 1) false (.slice none 0 0) from q3) (by omega)
        have HW2 : Hid _ := HW
        clear HW
        have HE0 := quo_done (w := w) (wr := w6.drew) (B := W1.heap.size) (q := Q) (r := R) (er := 0) (g := g + 1 + 1) (g2 := g + 1 + 1 + 1) (v0 := .bool bq) (v1 := .slice qo ql qc) (u0 := .bool br) (u1 := .slice ro rl rc) (hq.same rfl) (hr.same rfl) hqr (by rw [HG.out]; omega) (by rw [HG.out]; omega) (by have := HSZ.out; omega) HSZ.out (bstep hb (below_drew' _))
        rw [← HBQ.out, ← HBR.out] at HE0
        have HE : Hid (QEnd w Q R 0 _ _) := HE0
        clear HE0
        refine region_late [(0, fun w' => w'.cell? ⟨v, 0, none⟩ = some (.bool bq) ∧ w'.cell? ⟨v, 1, none⟩ = some (.slice qo ql qc)), (1, fun w' => w'.cell? ⟨v + 1, 0, none⟩ = some (.bool br) ∧ w'.cell? ⟨v + 1, 1, none⟩ = some (.slice ro rl rc))] (by kernel_rfl) ?_
        have hHeld : AllL w6.drew [(0, fun w' => w'.cell? ⟨v, 0, none⟩ = some (.bool bq) ∧ w'.cell? ⟨v, 1, none⟩ = some (.slice qo ql qc)), (1, fun w' => w'.cell? ⟨v + 1, 0, none⟩ = some (.bool br) ∧ w'.cell? ⟨v + 1, 1, none⟩ = some (.slice ro rl rc))] := ⟨(show ICell w6.drew v bq (.slice qo ql qc) from p0).cells, (show ICell w6.drew (v + 1) br (.slice ro rl rc) from p1).cells, trivial⟩
        refine late_tk 0 (v := .agg #[.bool bq, .slice qo ql qc]) rfl (List.Mem.head _) (Or.inl ⟨by rfl, ?_⟩) hHeld ?_
        · (intro u hu; (try dsimp only at hu); go_split_ands; go_simp)
        (try simp only [Act.put, putA, putB, putC])
        refine late_tk 1 (v := .agg #[.bool br, .slice ro rl rc]) rfl (List.Mem.tail _ (List.Mem.head _)) (Or.inl ⟨by rfl, ?_⟩) hHeld ?_
        · (intro u hu; (try dsimp only at hu); go_split_ands; go_simp)
        (try simp only [Act.put, putA, putB, putC])
        refine late_st 2 rfl (fun K hK => ?_)
        go_simp
        refine hK.out _ _ ⟨kpt 2, Or.inr ⟨keepS hne3 hHeld.2.1.1, keepS hne3 hHeld.2.1.2⟩, trivial⟩ ?_
        clear hK K
        (try simp only [Act.put, putA, putB, putC])
        refine late_st 3 rfl (fun K hK => ?_)
        go_simp
        refine hK.out _ _ ⟨kpt 2, kpt 3, trivial⟩ ?_
        clear hK K
        (try simp only [Act.put, putA, putB, putC])
        refine late_st 4 rfl (fun K hK => ?_)
        go_simp
        refine hK.out _ _ ⟨kpt 2, kpt 3, trivial⟩ ?_
        clear hK K
        (try simp only [Act.put, putA, putB, putC])
        refine late_done (by kernel_rfl) ?_ _
        clear e0 e1 e2 e3 y20 y21 y30 y31 f20 f21 f30 f31 hHeld
        go_wp2_with fail
        (try simp only [Exit.inBlock, Exit.then])
        exact bodyPost_ret (results_cct (p := 4) (q := 5) (u := 6) rfl _ _ (g + 1 + 1) (g + 1 + 1 + 1) 25 25 _ _ (0, 0) (0, 0) _ rfl rfl HW2.out.1 HW2.out.2 Tryz.underlying25 rfl (by kernel_rfl) (by kernel_rfl)) rfl HE.out
      · have HFQ2 : Hid (Q - 1 = FQ) := by show _ = _; rw [HQ.out, HFQ.out]; unfold fq; rw [if_pos (HP.out.2 ⟨h0, h1⟩)]
        have HFR2 : Hid (R + y = FR) := by show _ = _; rw [HR.out, HFR.out]; unfold fr; rw [if_pos (HP.out.2 ⟨h0, h1⟩)]
        have hs0 : (s1 == 0) = false := by simpa using h0
        have hs9 : (s1 != 0) = true := by simpa using h0
        have hs1 : (s1 == s2) = false := by simpa using h1
        have hs2 : (s1 != s2) = true := by simpa using h1
        clear h0 h1
        refine region_late [(0, fun w' => w'.cell? ⟨v + 1, 0, none⟩ = some (.bool br) ∧ w'.cell? ⟨v + 1, 1, none⟩ = some (.slice ro rl rc)), (4, fun w' => w'.cell? ⟨v + 1, 0, none⟩ = some (.bool br) ∧ w'.cell? ⟨v + 1, 1, none⟩ = some (.slice ro rl rc)), (6, fun w' => w'.cell? ⟨g + 1, 0, none⟩ = some (.bool nb) ∧ w'.cell? ⟨g + 1, 1, none⟩ = some (.slice bo bl bc))] (by kernel_rfl) ?_
        have hHeld : AllL W3.drew [(0, fun w' => w'.cell? ⟨v + 1, 0, none⟩ = some (.bool br) ∧ w'.cell? ⟨v + 1, 1, none⟩ = some (.slice ro rl rc)), (4, fun w' => w'.cell? ⟨v + 1, 0, none⟩ = some (.bool br) ∧ w'.cell? ⟨v + 1, 1, none⟩ = some (.slice ro rl rc)), (6, fun w' => w'.cell? ⟨g + 1, 0, none⟩ = some (.bool nb) ∧ w'.cell? ⟨g + 1, 1, none⟩ = some (.slice bo bl bc))] := ⟨(show ICell W3.drew (v + 1) br (.slice ro rl rc) from p1).cells, (show ICell W3.drew (v + 1) br (.slice ro rl rc) from p1).cells, (show ICell W3.drew (g + 1) nb (.slice bo bl bc) from q1).cells, trivial⟩
        refine late_tk 0 (v := .agg #[.bool br, .slice ro rl rc]) rfl (List.Mem.head _) (Or.inl ⟨by rfl, ?_⟩) hHeld ?_
        · (intro u hu; (try dsimp only at hu); go_split_ands; go_simp)
        (try simp only [Act.put, putA, putB, putC])
        refine late_st 1 rfl (fun K hK => ?_)
        go_simp
        refine (r_sign (iR.below (below_drew' _))).mono ?_
        rw [HS1.out]
        rintro e w4 ⟨rfl, b4⟩
        have B4 : Below W3.heap.size W3 w4 := bstep (below_drew' _) b4
        clear hHeld
        have hHeld : AllL w4 [(0, fun w' => w'.cell? ⟨v + 1, 0, none⟩ = some (.bool br) ∧ w'.cell? ⟨v + 1, 1, none⟩ = some (.slice ro rl rc)), (4, fun w' => w'.cell? ⟨v + 1, 0, none⟩ = some (.bool br) ∧ w'.cell? ⟨v + 1, 1, none⟩ = some (.slice ro rl rc)), (6, fun w' => w'.cell? ⟨g + 1, 0, none⟩ = some (.bool nb) ∧ w'.cell? ⟨g + 1, 1, none⟩ = some (.slice bo bl bc))] := ⟨(p1.below B4).cells, (p1.below B4).cells, (q1.below B4).cells, trivial⟩
        go_wp2_with fail
        refine hK.out _ _ (AllL.kept hHeld) ?_
        clear hK K
        (try simp only [Act.put, putA, putB, putC])
        refine late_fr 2 (v := .bool true) rfl (Or.inl ⟨by rfl, ?_⟩) hHeld ?_
        · (intro u _; go_simp)
        (try simp only [Act.put, putA, putB, putC])
        refine late_fr 3 (v := .bool true) rfl (Or.inl ⟨by rfl, ?_⟩) hHeld ?_
        · (intro u _; go_simp)
        (try simp only [Act.put, putA, putB, putC])
        refine late_tk 4 (v := .agg #[.bool br, .slice ro rl rc]) rfl (List.Mem.tail _ (List.Mem.head _)) (Or.inl ⟨by rfl, ?_⟩) hHeld ?_
        · (intro u hu; (try dsimp only at hu); go_split_ands; go_simp)
        (try simp only [Act.put, putA, putB, putC])
        refine late_tk 6 (v := .agg #[.bool nb, .slice bo bl bc]) rfl (List.Mem.tail _ (List.Mem.tail _ (List.Mem.head _))) (Or.inl ⟨by rfl, ?_⟩) hHeld ?_
        · (intro u hu; (try dsimp only at hu); go_split_ands; go_simp)
        (try simp only [Act.put, putA, putB, putC])
        refine late_st 5 rfl (fun K hK => ?_)
        go_simp
        refine (r_sign (iR.below B4)).mono ?_
        rw [HS1.out]
        rintro e w5 ⟨rfl, b5⟩
        have B5 : Below W3.heap.size W3 w5 := bstep B4 b5
        clear hHeld
        have hHeld : AllL w5 [(0, fun w' => w'.cell? ⟨v + 1, 0, none⟩ = some (.bool br) ∧ w'.cell? ⟨v + 1, 1, none⟩ = some (.slice ro rl rc)), (4, fun w' => w'.cell? ⟨v + 1, 0, none⟩ = some (.bool br) ∧ w'.cell? ⟨v + 1, 1, none⟩ = some (.slice ro rl rc)), (6, fun w' => w'.cell? ⟨g + 1, 0, none⟩ = some (.bool nb) ∧ w'.cell? ⟨g + 1, 1, none⟩ = some (.slice bo bl bc))] := ⟨(p1.below B5).cells, (p1.below B5).cells, (q1.below B5).cells, trivial⟩
        go_wp2_with fail
        refine hK.out _ _ (AllL.kept hHeld) ?_
        clear hK K
        (try simp only [Act.put, putA, putB, putC])
        refine late_st 7 rfl (fun K hK => ?_)
        go_simp
        refine (r_sign (hb'.below B5)).mono ?_
        rw [HS2.out]
        rintro e w6 ⟨rfl, b6⟩
        have B6 : Below W3.heap.size W3 w6 := bstep B5 b6
        clear hHeld
        have hHeld : AllL w6 [(0, fun w' => w'.cell? ⟨v + 1, 0, none⟩ = some (.bool br) ∧ w'.cell? ⟨v + 1, 1, none⟩ = some (.slice ro rl rc)), (4, fun w' => w'.cell? ⟨v + 1, 0, none⟩ = some (.bool br) ∧ w'.cell? ⟨v + 1, 1, none⟩ = some (.slice ro rl rc)), (6, fun w' => w'.cell? ⟨g + 1, 0, none⟩ = some (.bool nb) ∧ w'.cell? ⟨g + 1, 1, none⟩ = some (.slice bo bl bc))] := ⟨(p1.below B6).cells, (p1.below B6).cells, (q1.below B6).cells, trivial⟩
        go_wp2_with fail
        refine hK.out _ _ (AllL.kept hHeld) ?_
        clear hK K
        (try simp only [Act.put, putA, putB, putC])
        refine late_fr 8 (v := .bool true) rfl (Or.inl ⟨by rfl, ?_⟩) hHeld ?_
        · (intro u _; go_simp)
        (try simp only [Act.put, putA, putB, putC])
        refine late_fr 9 (v := .bool true) rfl (Or.inl ⟨by rfl, ?_⟩) hHeld ?_
        · (intro u _; go_simp)
        (try simp only [Act.put, putA, putB, putC])
        refine late_done (by kernel_rfl) ?_ _
        clear hHeld
        replace q1 := q1.below B6
        replace q2 := q2.below B6
        replace q3 := q3.below B6
        replace p0 := p0.below B6
        replace p1 := p1.below B6
        replace hq := hq.below B6
        replace hr := hr.below B6
        replace iQ := iQ.below B6
        replace iR := iR.below B6
        replace hb' := hb'.below B6
        replace hb := bstep hb B6
        have HLW : Hid (W1.heap.size ≤ w6.heap.size) := Nat.le_trans HLW0.out B6.size
        replace hsz3 := Nat.lt_of_lt_of_le hsz3 B6.size
        clear b4 B4 b5 B5 b6 B6
        clear hs0 hs9 hs1 hs2
        go_wp2_with fail
        refine region_late [(0, fun w' => w'.cell? ⟨v, 0, none⟩ = some (.bool bq) ∧ w'.cell? ⟨v, 1, none⟩ = some (.slice qo ql qc))] (by kernel_rfl) ?_
        have hHeld : AllL w6.drew [(0, fun w' => w'.cell? ⟨v, 0, none⟩ = some (.bool bq) ∧ w'.cell? ⟨v, 1, none⟩ = some (.slice qo ql qc))] := ⟨(show ICell w6.drew v bq (.slice qo ql qc) from p0).cells, trivial⟩
        refine late_tk 0 (v := .agg #[.bool bq, .slice qo ql qc]) rfl (List.Mem.head _) (Or.inl ⟨by rfl, ?_⟩) hHeld ?_
        · (intro u hu; (try dsimp only at hu); go_split_ands; go_simp)
        (try simp only [Act.put, putA, putB, putC])
        refine late_st 1 rfl (fun K hK => ?_)
        go_simp
        refine (r_of 1 _ (by decide) (by decide)).mono ?_
        rintro e w7 ⟨o, rfl, ho, b7⟩
        have io := ho.num Sz.one (by decide)
        obtain ⟨on, oo, ol, oc, ox, rfl, ou, oll, oz⟩ := io
        have io : INum w7 (.agg #[.bool on, .slice oo ol oc]) 1 := ⟨_, _, _, _, _, rfl, ou, oll, oz⟩
        clear ho ou oll oz
        have B7 : Below w6.heap.size w6 w7 := bstep (below_drew' _) b7
        clear hHeld
        have hHeld : AllL w7 [(0, fun w' => w'.cell? ⟨v, 0, none⟩ = some (.bool bq) ∧ w'.cell? ⟨v, 1, none⟩ = some (.slice qo ql qc))] := ⟨(p0.below B7).cells, trivial⟩
        go_wp2_with fail
        refine hK.out _ _ (AllL.kept hHeld) ?_
        clear hK K
        (try simp only [Act.put, putA, putB, putC])
        refine late_st 2 rfl (fun K hK => ?_)
        go_simp
        refine (r_sub (iQ.below B7) io Sz.one (by decide)).mono ?_
        rw [HFQ2.out]
        rintro e w8 ⟨u, rfl, ⟨m, rfl, hms⟩, b8⟩
        obtain ⟨so, sl, sc, rfl⟩ := hms.sl
        have B8 : Below w6.heap.size w6 w8 := bstep B7 b8
        clear hHeld
        have hHeld : AllL w8 [(0, fun w' => w'.cell? ⟨v, 0, none⟩ = some (.bool bq) ∧ w'.cell? ⟨v, 1, none⟩ = some (.slice qo ql qc))] := ⟨(p0.below B8).cells, trivial⟩
        go_wp2_with fail
        refine hK.out _ _ (AllL.kept hHeld) ?_
        clear hK K
        (try simp only [Act.put, putA, putB, putC])
        replace q1 := q1.below B8
        replace q2 := q2.below B8
        replace q3 := q3.below B8
        replace p0 := p0.below B8
        replace p1 := p1.below B8
        replace hr := hr.below B8
        replace hb := bstep hb B8
        have hsz8 := Nat.lt_of_lt_of_le hsz3 B8.size
        have hle7 := B7.size
        have hle8 := B8.size
        obtain ⟨bq2, hbq2⟩ : ∃ b, b = decide (FQ < 0) := ⟨_, rfl⟩
        have HBQ2 : Hid (bq2 = decide (FQ < 0)) := hbq2
        rw [← hbq2]
        clear hbq2 B7 b7 B8 b8 io iQ hq
        obtain ⟨i0, i1⟩ := p0.cells
        have f0 := p0.thaw 0
        have f1 := p0.thaw 1
        refine late_st 3 rfl (fun K hK => ?_)
        go_simp
        refine hK.out _ _ ⟨kpt 2, trivial⟩ ?_
        clear hK K
        (try simp only [Act.put, putA, putB, putC])
        refine late_done (by kernel_rfl) ?_ _
        have hsv : v + 1 < w7.heap.size := Nat.lt_of_lt_of_le hsz3 hle7
        have hq := own_put (v0 := .bool bq2) (v1 := .slice so sl sc) hms (own_ne3 hms (g := v) (by omega))
        replace hr := own_put (v0 := .bool bq2) (v1 := .slice so sl sc) hr (by have h9 := HNR.out; rw [← HV.out] at h9; exact h9)
        replace hb : Below w.heap.size w ((w8.setCell ⟨v, 0, none⟩ (.bool bq2)).setCell ⟨v, 1, none⟩ (.slice so sl sc)) := iend2 hb (by rw [HG.out] at hsz2; omega)
        replace p0 := p0.write bq2 (.slice so sl sc)
        replace p1 := icell_put (v0 := .bool bq2) (v1 := .slice so sl sc) p1 (g2 := v) (by omega)
        replace q1 := icell_put (v0 := .bool bq2) (v1 := .slice so sl sc) q1 (g2 := v) (by omega)
        replace q2 := icell_put (v0 := .bool bq2) (v1 := .slice so sl sc) q2 (g2 := v) (by omega)
        replace q3 := icell_put (v0 := .bool bq2) (v1 := .slice so sl sc) q3 (g2 := v) (by omega)
        obtain ⟨WA, hWA⟩ : ∃ WA, WA = ((w8.setCell ⟨v, 0, none⟩ (.bool bq2)).setCell ⟨v, 1, none⟩ (.slice so sl sc)) := ⟨_, rfl⟩
        have hszA : WA.heap.size = w8.heap.size := by rw [hWA]; simp
        rw [← hWA] at hq hr hb p0 p1 q1 q2 q3 ⊢
        clear hWA i0 i1 f0 f1 hHeld hms
        replace iR := INum.mk' hr sR
        rw [← HBR.out] at iR
        replace hb' := (hib0.num (by omega)).below hb
        obtain ⟨c1, d1⟩ := q1.cells
        obtain ⟨e2, e3⟩ := p1.cells
        go_wp2_with fail
        clear c1 d1 e2 e3
        refine (r_add iR hb').mono ?_
        rw [HFR2.out]
        rintro e w9 ⟨u, rfl, ⟨m, rfl, hmt⟩, b9⟩
        obtain ⟨xo, xl, xc, rfl⟩ := hmt.sl
        have HAPP := apart_later hq hmt (Nat.le_refl _)
        replace q2 := q2.below b9
        replace q3 := q3.below b9
        replace p0 := p0.below b9
        replace p1 := p1.below b9
        replace hq := hq.below b9
        replace hb := bstep hb b9
        obtain ⟨br2, hbr2⟩ : ∃ b, b = decide (FR < 0) := ⟨_, rfl⟩
        have HBR2 : Hid (br2 = decide (FR < 0)) := hbr2
        rw [← hbr2]
        clear hbr2
        obtain ⟨e2, e3⟩ := p1.cells
        have f2 := p1.thaw 0
        have f3 := p1.thaw 1
        clear iR hb' hib0 q1 hr
        go_wp2_with fail
        clear e2 e3 f2 f3
        have HAP : Hid ((Value.slice so sl sc).ownBlock = none ∨ (Value.slice so sl sc).ownBlock ≠ (Value.slice xo xl xc).ownBlock) := HAPP
        have hleW := HLW.out
        replace hq := (own_put (v0 := .bool br2) (v1 := .slice xo xl xc) hq (own_ne3 hq (g := v + 1) (by omega))).mono (B' := W1.heap.size) (by omega)
        have hr := (own_put (v0 := .bool br2) (v1 := .slice xo xl xc) hmt (own_ne3 hmt (g := v + 1) (by omega))).mono (B' := W1.heap.size) (by omega)
        replace hb : Below w.heap.size w ((w9.setCell ⟨v + 1, 0, none⟩ (.bool br2)).setCell ⟨v + 1, 1, none⟩ (.slice xo xl xc)) := iend2 hb (by rw [HG.out] at hsz2; omega)
        replace p1 := p1.write br2 (.slice xo xl xc)
        replace p0 := icell_put (v0 := .bool br2) (v1 := .slice xo xl xc) p0 (g2 := v + 1) (by omega)
        replace q2 := icell_put (v0 := .bool br2) (v1 := .slice xo xl xc) q2 (g2 := v + 1) (by omega)
        replace q3 := icell_put (v0 := .bool br2) (v1 := .slice xo xl xc) q3 (g2 := v + 1) (by omega)
        obtain ⟨WB, hWB⟩ : ∃ WB, WB = ((w9.setCell ⟨v + 1, 0, none⟩ (.bool br2)).setCell ⟨v + 1, 1, none⟩ (.slice xo xl xc)) := ⟨_, rfl⟩
        rw [← hWB] at hq hr hb p0 p1 q2 q3 ⊢
        clear hWB hmt b9
        obtain ⟨e0, e1⟩ := p0.cells
        obtain ⟨e2, e3⟩ := p1.cells
        obtain ⟨y20, y21⟩ := q2.cells
        obtain ⟨y30, y31⟩ := q3.cells
        have f20 := q2.thaw 0
        have f21 := q2.thaw 1
        have f30 := q3.thaw 0
        have f31 := q3.thaw 1
        have hne1 : ¬ v = g + 1 + 1 := by omega
        have hne2 : ¬ v = g + 1 + 1 + 1 := by omega
        have hne3 : ¬ v + 1 = g + 1 + 1 := by omega
        have hne4 : ¬ v + 1 = g + 1 + 1 + 1 := by omega
        have HW := icell_two (k1 := bq2) (k2 := br2) (v1 := .slice so sl sc) (v2 := .slice xo xl xc) (show ICell WB.drew (g + 1 + 1) false (.slice none 0 0) from q2) (show ICell WB.drew (g + 1 + 1 + 1) false (.slice none 0 0) from q3) (by omega)
        have HW2 : Hid _ := HW
        clear HW
        have HE0 := quo_done (w := w) (wr := WB.drew) (B := W1.heap.size) (q := FQ) (r := FR) (er := 0) (g := g + 1 + 1) (g2 := g + 1 + 1 + 1) (v0 := .bool bq2) (v1 := .slice so sl sc) (u0 := .bool br2) (u1 := .slice xo xl xc) (hq.same rfl) (hr.same rfl) HAP.out (by rw [HG.out]; omega) (by rw [HG.out]; omega) (by have := HSZ.out; omega) HSZ.out (bstep hb (below_drew' _))
        rw [← HBQ2.out, ← HBR2.out] at HE0
        have HE : Hid (QEnd w FQ FR 0 _ _) := HE0
        clear HE0
        refine region_late [(0, fun w' => w'.cell? ⟨v, 0, none⟩ = some (.bool bq2) ∧ w'.cell? ⟨v, 1, none⟩ = some (.slice so sl sc)), (1, fun w' => w'.cell? ⟨v + 1, 0, none⟩ = some (.bool br2) ∧ w'.cell? ⟨v + 1, 1, none⟩ = some (.slice xo xl xc))] (by kernel_rfl) ?_
        have hHeld : AllL WB.drew [(0, fun w' => w'.cell? ⟨v, 0, none⟩ = some (.bool bq2) ∧ w'.cell? ⟨v, 1, none⟩ = some (.slice so sl sc)), (1, fun w' => w'.cell? ⟨v + 1, 0, none⟩ = some (.bool br2) ∧ w'.cell? ⟨v + 1, 1, none⟩ = some (.slice xo xl xc))] := ⟨(show ICell WB.drew v bq2 (.slice so sl sc) from p0).cells, (show ICell WB.drew (v + 1) br2 (.slice xo xl xc) from p1).cells, trivial⟩
        refine late_tk 0 (v := .agg #[.bool bq2, .slice so sl sc]) rfl (List.Mem.head _) (Or.inl ⟨by rfl, ?_⟩) hHeld ?_
        · (intro u hu; (try dsimp only at hu); go_split_ands; go_simp)
        (try simp only [Act.put, putA, putB, putC])
        refine late_tk 1 (v := .agg #[.bool br2, .slice xo xl xc]) rfl (List.Mem.tail _ (List.Mem.head _)) (Or.inl ⟨by rfl, ?_⟩) hHeld ?_
        · (intro u hu; (try dsimp only at hu); go_split_ands; go_simp)
        (try simp only [Act.put, putA, putB, putC])
        refine late_st 2 rfl (fun K hK => ?_)
        go_simp
        refine hK.out _ _ ⟨kpt 2, Or.inr ⟨keepS hne3 hHeld.2.1.1, keepS hne3 hHeld.2.1.2⟩, trivial⟩ ?_
        clear hK K
        (try simp only [Act.put, putA, putB, putC])
        refine late_st 3 rfl (fun K hK => ?_)
        go_simp
        refine hK.out _ _ ⟨kpt 2, kpt 3, trivial⟩ ?_
        clear hK K
        (try simp only [Act.put, putA, putB, putC])
        refine late_st 4 rfl (fun K hK => ?_)
        go_simp
        refine hK.out _ _ ⟨kpt 2, kpt 3, trivial⟩ ?_
        clear hK K
        (try simp only [Act.put, putA, putB, putC])
        refine late_done (by kernel_rfl) ?_ _
        clear e0 e1 e2 e3 y20 y21 y30 y31 f20 f21 f30 f31 hHeld
        go_wp2_with fail
        (try simp only [Exit.inBlock, Exit.then])
        exact bodyPost_ret (results_cct (p := 4) (q := 5) (u := 6) rfl _ _ (g + 1 + 1) (g + 1 + 1 + 1) 25 25 _ _ (0, 0) (0, 0) _ rfl rfl HW2.out.1 HW2.out.2 Tryz.underlying25 rfl (by kernel_rfl) (by kernel_rfl)) rfl HE.out
end Go.Proofs.YtfnafgjnimfmjaaGreatDoor
