/-
  Proved here: what wholly and between of the document's layer 3 answer.
-/
import Derived.Test.YtfnafgjnimfmjaaGreatDoorRBtwMAll
import Derived.Test.YtfnafgjnimfmjaaGreatDoorLate2All
import Derived.Deep.DeepCutAuto
namespace Go.Proofs.YtfnafgjnimfmjaaGreatDoor
open Go.RowKit
attribute [local go_sem ↓] Go.wp_at_zero Go.wp_at_succ

theorem QCell.noint9 {w : World} {g : Nat} {n : Bool} {o O : Option Addr} {l c L C : Nat} (h : QCell w g n (.slice o l c) (.slice O L C)) : NoInt w g := by
  intro i k z e
  rw [cell_of_row w g _ _ _ _ h] at e
  match i, e with
  | 0, e => cases e
  | 1, e => cases e
  | 2, e => cases e
  | i + 3, e => simp at e
theorem three_other9 (w : World) (g : Nat) (a b c : Value) : ∀ k, k ≠ g → (((w.setCell ⟨g, 0, none⟩ a).setCell ⟨g, 1, none⟩ b).setCell ⟨g, 2, none⟩ c).heap[k]? = w.heap[k]? := by
  intro k hk
  rw [heap_setCell_other _ _ _ _ hk, heap_setCell_other _ _ _ _ hk, heap_setCell_other _ _ _ _ hk]
theorem RQ.box {w w' : World} {v : Value} {a : Rat} {g : Nat} (h : RQ w v a) (hg : NoInt w g) (hw : ∀ b, b ≠ g → w'.heap[b]? = w.heap[b]?) : RQ w' v a := by
  obtain ⟨p, q, ⟨n, ao, al, ac, bo, bl, bc, rfl, ⟨n1, o1, l1, c1, x1, e1, u1, k1, z1⟩, ⟨o2, l2, c2, x2, e2, u2, k2, z2⟩⟩, rfl⟩ := h
  exact ⟨p, q, ⟨n, ao, al, ac, bo, bl, bc, rfl, ⟨n1, o1, l1, c1, x1, e1, u1.box hg hw, k1, z1⟩, ⟨o2, l2, c2, x2, e2, u2.box hg hw, k2, z2⟩⟩, rfl⟩
/-- A box made within a region. -/
structure PR (W1 w : World) (v : Nat) : Prop where
  c : QCell w v false (.slice none 0 0) (.slice none 0 0)
  lt : v < w.heap.size
  ge : W1.heap.size ≤ v
theorem PR.below {W1 w w' : World} {v : Nat} (h : PR W1 w v) (hb : Below w.heap.size w w') : PR W1 w' v := ⟨h.c.below hb, Nat.lt_of_lt_of_le h.lt hb.size, h.ge⟩
theorem new_pr {W1 c : World} (B : Below W1.heap.size W1 c) : ∃ wn v, c.alloc (.cells #[.bool false, .slice none 0 0, .slice none 0 0] 27) = wn ∧ c.heap.size = v ∧ PR W1 wn v ∧ Below c.heap.size c wn ∧ Below W1.heap.size W1 wn :=
  ⟨_, _, rfl, rfl, ⟨qcell_new _ rfl, by simp, B.size⟩, belowA _ _, bstep B (belowA _ _)⟩
theorem pr_end {W1 c : World} {vx : Nat} {n : Bool} {o O : Option Addr} {l c' L C : Nat} {a : Rat} (hx : PR W1 c vx) (h : RQ c (.agg #[.bool n, .slice o l c', .slice O L C]) a) (B : Below W1.heap.size W1 c) :
    QCell (((c.setCell ⟨vx, 0, none⟩ (.bool n)).setCell ⟨vx, 1, none⟩ (.slice o l c')).setCell ⟨vx, 2, none⟩ (.slice O L C)) vx n (.slice o l c') (.slice O L C) ∧ RQ (((c.setCell ⟨vx, 0, none⟩ (.bool n)).setCell ⟨vx, 1, none⟩ (.slice o l c')).setCell ⟨vx, 2, none⟩ (.slice O L C)) (.agg #[.bool n, .slice o l c', .slice O L C]) a ∧ Below W1.heap.size W1 (((c.setCell ⟨vx, 0, none⟩ (.bool n)).setCell ⟨vx, 1, none⟩ (.slice o l c')).setCell ⟨vx, 2, none⟩ (.slice O L C)) :=
  ⟨hx.c.write _ _ _, h.box hx.c.noint9 (three_other9 c vx _ _ _), ((B.setCell (p := ⟨vx, 0, none⟩) hx.ge _).setCell (p := ⟨vx, 1, none⟩) hx.ge _).setCell (p := ⟨vx, 2, none⟩) hx.ge _⟩
theorem own_ne_box {B g : Nat} {w : World} {m : Value} {xs : List Nat} {n : Bool} {a b : Value} (ho : Own B 37 w m xs) (hq : QCell w g n a b) : m.ownBlock = none ∨ m.ownBlock ≠ some g := by
  rcases ho.2.2 with ⟨rfl, _⟩ | ⟨g', cap, cur, rfl, _, hh, _⟩
  · exact Or.inl rfl
  · refine Or.inr fun e => ?_
    have hgg : g' = g := Option.some.inj e
    have hq' : w.heap[g]? = some (.cells #[.bool n, a, b] 27 (0, 0)) := hq
    rw [hgg, hq'] at hh
    simp only [Option.some.injEq, Obj.cells.injEq] at hh
    exact absurd hh.2.1 (by decide)
theorem pr_endO {W1 c : World} {vx B : Nat} {n : Bool} {o O : Option Addr} {l c' L C : Nat} {a : Rat} (hx : PR W1 c vx) (h : ROwn B c (.agg #[.bool n, .slice o l c', .slice O L C]) a) (Bz : Below W1.heap.size W1 c) :
    QCell (((c.setCell ⟨vx, 0, none⟩ (.bool n)).setCell ⟨vx, 1, none⟩ (.slice o l c')).setCell ⟨vx, 2, none⟩ (.slice O L C)) vx n (.slice o l c') (.slice O L C) ∧ ROwn B (((c.setCell ⟨vx, 0, none⟩ (.bool n)).setCell ⟨vx, 1, none⟩ (.slice o l c')).setCell ⟨vx, 2, none⟩ (.slice O L C)) (.agg #[.bool n, .slice o l c', .slice O L C]) a ∧ Below W1.heap.size W1 (((c.setCell ⟨vx, 0, none⟩ (.bool n)).setCell ⟨vx, 1, none⟩ (.slice o l c')).setCell ⟨vx, 2, none⟩ (.slice O L C)) := by
  obtain ⟨m, d, e, hm, hd, hap⟩ := h
  have n1 := own_ne_box hm hx.c
  have n2 := own_ne_box hd hx.c
  exact ⟨hx.c.write _ _ _, ⟨m, d, e, ((hm.other _ n1).other _ n1).other _ n1, ((hd.other _ n2).other _ n2).other _ n2, hap⟩, ((Bz.setCell (p := ⟨vx, 0, none⟩) hx.ge _).setCell (p := ⟨vx, 1, none⟩) hx.ge _).setCell (p := ⟨vx, 2, none⟩) hx.ge _⟩
set_option maxRecDepth 100000 in
set_option maxHeartbeats 6400000 in
theorem small1 (w : World) : Calls Tryz.prog 29 #[.int .i64 1, .int .i64 1] w fun e w' => REnd w 1 e w' := by
  obtain ⟨W1, hW1⟩ : ∃ W1, W1 = w.alloc (.cells #[.bool false, .slice none 0 0, .slice none 0 0] 27) := ⟨_, rfl⟩
  have qR : QCell W1 (w.heap.size) false (.slice none 0 0) (.slice none 0 0) := by rw [hW1]; exact (qcell_new _ (by simp))
  have hb : Below w.heap.size w W1 := by rw [hW1]; exact belowA w _
  have hsz : w.heap.size < W1.heap.size := by rw [hW1]; simp
  have HW1 : Hid (W1 = w.alloc (.cells #[.bool false, .slice none 0 0, .slice none 0 0] 27)) := hW1
  clear hW1
  go_enter Tryz.func29, Tryz.ntmps29
  go_wp2_with fail
  rw [← HW1.out]
  clear HW1
  obtain ⟨g, hg⟩ : ∃ g, g = w.heap.size := ⟨_, rfl⟩
  rw [← hg] at qR hsz ⊢
  have HG : Hid (g = w.heap.size) := hg
  clear hg
  have hq := of3_yes (n := 1) (d := 1) (w := W1) (by decide) (by decide) (by decide) (by decide) (by decide)
  rw [show Rat.divInt 1 1 = 1 by decide] at hq
  have hszz := hsz
  refine (hq).mono ?_
  rintro e w2 ⟨v, rfl, hv, b⟩
  clear hq
  obtain ⟨m, d, rfl, hm, hd, hap⟩ := hv
  obtain ⟨mo, ml, mc, rfl⟩ := hm.sl
  obtain ⟨mO, mL, mC, rfl⟩ := hd.sl
  generalize hbb : decide ((1 : Rat).num < 0) = bb
  have hown : ROwn (g + 1) w2 (.agg #[.bool bb, .slice mo ml mc, .slice mO mL mC]) 1 := ⟨_, _, by rw [← hbb], hm.mono hszz, hd.mono hszz, hap⟩
  clear hbb hm hd hap hszz
  replace qR := qR.below b
  replace hb := bstep hb b
  replace hsz := Nat.lt_of_lt_of_le hsz b.size
  clear b
  obtain ⟨W3, hW3⟩ : ∃ W, W = w2.alloc (.cells #[.bool bb, .slice mo ml mc, .slice mO mL mC] 27) := ⟨_, rfl⟩
  have qA : QCell W3 (w2.heap.size) bb (.slice mo ml mc) (.slice mO mL mC) := by rw [hW3]; exact (qcell_new _ rfl)
  have b : Below w2.heap.size w2 W3 := by rw [hW3]; exact belowA _ _
  replace hown := hown.below b
  replace qR := qR.below b
  replace hb := bstep hb b
  replace hsz := Nat.lt_of_lt_of_le hsz b.size
  clear b
  have rqR0 : (w2.alloc (.cells #[.bool bb, .slice mo ml mc, .slice mO mL mC] 27)).cell? ⟨g, 0, none⟩ = some (.bool false) := by rw [← hW3]; exact qR.cells.1
  have rqR1 : (w2.alloc (.cells #[.bool bb, .slice mo ml mc, .slice mO mL mC] 27)).cell? ⟨g, 1, none⟩ = some (.slice none 0 0) := by rw [← hW3]; exact qR.cells.2.1
  have rqR2 : (w2.alloc (.cells #[.bool bb, .slice mo ml mc, .slice mO mL mC] 27)).cell? ⟨g, 2, none⟩ = some (.slice none 0 0) := by rw [← hW3]; exact qR.cells.2.2
  have rqA0 : (w2.alloc (.cells #[.bool bb, .slice mo ml mc, .slice mO mL mC] 27)).cell? ⟨w2.heap.size, 0, none⟩ = some (.bool bb) := by rw [← hW3]; exact qA.cells.1
  have rqA1 : (w2.alloc (.cells #[.bool bb, .slice mo ml mc, .slice mO mL mC] 27)).cell? ⟨w2.heap.size, 1, none⟩ = some (.slice mo ml mc) := by rw [← hW3]; exact qA.cells.2.1
  have rqA2 : (w2.alloc (.cells #[.bool bb, .slice mo ml mc, .slice mO mL mC] 27)).cell? ⟨w2.heap.size, 2, none⟩ = some (.slice mO mL mC) := by rw [← hW3]; exact qA.cells.2.2
  obtain ⟨v3, hv3⟩ : ∃ v, v = w2.heap.size := ⟨_, rfl⟩
  rw [← hv3] at qA
  have HW3 : Hid (W3 = w2.alloc (.cells #[.bool bb, .slice mo ml mc, .slice mO mL mC] 27)) := hW3
  have Hv3 : Hid (v3 = w2.heap.size) := hv3
  clear hW3 hv3
  obtain ⟨m, d, he, hm, hd, hap⟩ := hown
  simp only [Value.agg.injEq, Array.mk.injEq, List.cons.injEq, Value.bool.injEq, and_true] at he
  obtain ⟨hbb, rfl, rfl⟩ := he
  have HE : Hid (REnd w 1 (.returned (.agg #[.bool bb, .slice mo ml mc, .slice mO mL mC])) (((W3.setCell ⟨g, 0, none⟩ (.bool bb)).setCell ⟨g, 1, none⟩ (.slice mo ml mc)).setCell ⟨g, 2, none⟩ (.slice mO mL mC))) := rat_done hbb (by rw [HG.out]; exact Nat.le_refl _) hm hd hap (Nat.lt_succ_self g) hb
  have HW : Hid (QCell (((W3.setCell ⟨g, 0, none⟩ (.bool bb)).setCell ⟨g, 1, none⟩ (.slice mo ml mc)).setCell ⟨g, 2, none⟩ (.slice mO mL mC)) g bb (.slice mo ml mc) (.slice mO mL mC)) := qR.write _ _ _
  have f0 := qR.thaw 0
  have f1 := qR.thaw 1
  have f2 := qR.thaw 2
  rw [HW3.out] at f0 f1 f2
  clear hbb hm hd hap hb hsz qR qA
  go_wp2_with fail
  rw [← HW3.out, ← Hv3.out]
  clear HW3 Hv3 rqR0 rqR1 rqR2 rqA0 rqA1 rqA2
  (try simp only [Exit.inBlock, Exit.then])
  exact bodyPost_ret (results_cell_row rfl _ _ (g) 27 _ (0, 0) _ rfl HW.out Tryz.underlying27 rfl (by kernel_rfl)) rfl HE.out
set_option maxRecDepth 100000 in
set_option maxHeartbeats 6400000 in
theorem wholly3 {v : Value} {z : Int} {w : World} (h : IB w v z 40) : Calls Tryz.prog 26 #[v] w fun e w' => REnd w (Rat.divInt z 1) e w' := by
  obtain ⟨nn, no, nl, nc, xn, rfl, un, ln, en⟩ := h
  have ib : IB w (.agg #[.bool nn, .slice no nl nc]) z 40 := ⟨_, _, _, _, _, rfl, un, ln, en⟩
  clear un ln en
  obtain ⟨Z, hZ⟩ : ∃ Z, Z = Rat.divInt z 1 := ⟨_, rfl⟩
  rw [← hZ]
  have HZ : Hid (Rat.divInt z 1 = Z) := hZ.symm
  clear hZ
  obtain ⟨W1, hW1⟩ : ∃ W1, W1 = (w.alloc (.cells #[.bool nn, .slice no nl nc] 25)).alloc (.cells #[.bool false, .slice none 0 0, .slice none 0 0] 27) := ⟨_, rfl⟩
  have qn : ICell W1 (w.heap.size) nn (.slice no nl nc) := by rw [hW1]; exact (icell_step (icell_new _ (by simp)))
  have qR : QCell W1 (w.heap.size + 1) false (.slice none 0 0) (.slice none 0 0) := by rw [hW1]; exact (qcell_new _ (by simp))
  have hb : Below w.heap.size w W1 := by rw [hW1]; exact bstep (belowA w _) (belowA _ _)
  have hsz : w.heap.size + 1 < W1.heap.size := by rw [hW1]; simp
  replace ib := ib.below hb
  have HW1 : Hid (W1 = (w.alloc (.cells #[.bool nn, .slice no nl nc] 25)).alloc (.cells #[.bool false, .slice none 0 0, .slice none 0 0] 27)) := hW1
  clear hW1
  go_enter Tryz.func26, Tryz.ntmps26
  go_wp2_with fail
  rw [← HW1.out]
  clear HW1
  obtain ⟨g, hg⟩ : ∃ g, g = w.heap.size := ⟨_, rfl⟩
  rw [← hg] at qn qR hsz ⊢
  have HG : Hid (g = w.heap.size) := hg
  clear hg
  obtain ⟨cqn0, cqn1⟩ := qn.cells
  obtain ⟨cqR0, cqR1, cqR2⟩ := qR.cells
  go_wp2_with fail
  clear cqn0 cqn1 cqR0 cqR1 cqR2
  have KEEP : ∀ u, Below W1.heap.size W1 u → AllL u [(0, fun w' => w'.cell? ⟨g, 0, none⟩ = some (.bool nn) ∧ w'.cell? ⟨g, 1, none⟩ = some (.slice no nl nc))] := fun u B => ⟨(qn.below B).cells, trivial⟩
  refine region_late [(0, fun w' => w'.cell? ⟨g, 0, none⟩ = some (.bool nn) ∧ w'.cell? ⟨g, 1, none⟩ = some (.slice no nl nc))] (by kernel_rfl) ?_
  have BZ : Below W1.heap.size W1 W1.drew := below_drew' _
  obtain ⟨wz, hwz⟩ : ∃ u, u = W1.drew := ⟨_, rfl⟩
  rw [← hwz] at BZ ⊢
  clear hwz
  have hHeld := KEEP _ BZ
  have kib := ib.below BZ
  refine late_tk 0 (v := .agg #[.bool nn, .slice no nl nc]) rfl (List.Mem.head _) (Or.inl ⟨by rfl, ?_⟩) hHeld ?_
  · (intro u hu; (try dsimp only at hu); go_split_ands; go_simp)
  (try simp only [Act.put, putA, putB, putC])
  refine late_st 1 rfl (fun K hK => ?_)
  go_simp
  refine (one3 _).mono ?_
  rintro e w2 ⟨oo, ol, oc, rfl, nb, b2⟩
  replace kib := kib.below b2
  have B2 : Below W1.heap.size W1 w2 := bstep BZ b2
  clear BZ b2
  replace hHeld := KEEP _ B2
  go_wp2_with fail
  refine hK.out _ _ (AllL.kept hHeld) ?_
  clear hK K
  (try simp only [Act.put, putA, putB, putC])
  have hq := lowB kib nb (by decide) (by decide) (by decide)
  rw [HZ.out] at hq
  have hbase := Nat.lt_of_lt_of_le hsz B2.size
  refine late_st 2 rfl (fun K hK => ?_)
  go_simp
  refine (hq).mono ?_
  rintro e w3 ⟨v, rfl, hv, b3⟩
  clear hq kib nb
  obtain ⟨m, d, rfl, hm, hd, hap⟩ := hv
  obtain ⟨mo, ml, mc, rfl⟩ := hm.sl
  obtain ⟨mO, mL, mC, rfl⟩ := hd.sl
  have B3 : Below W1.heap.size W1 w3 := bstep B2 b3
  clear B2 b3
  replace hHeld := KEEP _ B3
  go_wp2_with fail
  refine hK.out _ _ (AllL.kept hHeld) ?_
  clear hK K
  (try simp only [Act.put, putA, putB, putC])
  have qq := qR.below B3
  have HE : Hid (REnd w Z (.returned (.agg #[.bool (decide (Z.num < 0)), .slice mo ml mc, .slice mO mL mC])) (((w3.setCell ⟨g + 1, 0, none⟩ (.bool (decide (Z.num < 0)))).setCell ⟨g + 1, 1, none⟩ (.slice mo ml mc)).setCell ⟨g + 1, 2, none⟩ (.slice mO mL mC))) := rat_done rfl (by rw [HG.out]; omega) hm hd hap hbase (bstep hb B3)
  have HW : Hid (QCell (((w3.setCell ⟨g + 1, 0, none⟩ (.bool (decide (Z.num < 0)))).setCell ⟨g + 1, 1, none⟩ (.slice mo ml mc)).setCell ⟨g + 1, 2, none⟩ (.slice mO mL mC)) (g + 1) (decide (Z.num < 0)) (.slice mo ml mc) (.slice mO mL mC)) := qq.write _ _ _
  obtain ⟨y0, y1, y2⟩ := qq.cells
  have f0 := qq.thaw 0
  have f1 := qq.thaw 1
  have f2 := qq.thaw 2
  generalize decide (Z.num < 0) = bb at *
  clear qq hm hd hap KEEP
  refine late_st 3 rfl (fun K hK => ?_)
  go_simp
  refine hK.out _ _ ⟨kpt 2, trivial⟩ ?_
  clear hK K
  (try simp only [Act.put, putA, putB, putC])
  refine late_done (by kernel_rfl) ?_ _
  clear hHeld hb hsz hbase B3 qn qR ib y0 y1 y2 f0 f1 f2
  go_wp2_with fail
  (try simp only [Exit.inBlock, Exit.then])
  exact bodyPost_ret (results_cell_row rfl _ _ (g + 1) 27 _ (0, 0) _ rfl HW.out Tryz.underlying27 rfl (by kernel_rfl)) rfl HE.out
theorem RSz.one9 : RSz (1 : Rat) 40 := ⟨Sz.one.mono (by decide), Sz.one.mono (by decide)⟩
set_option maxRecDepth 100000 in
set_option maxHeartbeats 6400000 in
theorem between3_step (K : Nat) (IH : Hid (∀ (w : World) (va vb : Value) (a b : Rat), RQ w va a → RQ w vb b → UpTo a b → a.den + b.den ≤ K → Calls Tryz.prog 43 #[va, vb] w fun e w' => REnd w (sQ a b) e w')) {w : World} {va vb : Value} {a b : Rat} (hA : RQ w va a) (hB : RQ w vb b) (hu : UpTo a b) (hk : a.den + b.den ≤ K + 1) : Calls Tryz.prog 43 #[va, vb] w fun e w' => REnd w (sQ a b) e w' := by
  obtain ⟨na, ao, al, ac, aO, aL, aC, rfl⟩ := hA.see
  obtain ⟨nb, bo, bl, bc, bO, bL, bC, rfl⟩ := hB.see
  have HSA : Hid (RSz a 40) := hA.sz
  have HSB : Hid (RSz b 40) := hB.sz
  have HU : Hid (UpTo a b) := hu
  have HN : Hid (Sz (nF a : Int) 40) := sz_le_nat (Nat.div_le_self _ _) (sz_abs hA.sz.num)
  obtain ⟨Z, hZ⟩ : ∃ Z, Z = sQ a b := ⟨_, rfl⟩
  rw [← hZ]
  have HZ : Hid (Z = sQ a b) := hZ
  have HK9 : Hid (a.den + b.den ≤ K + 1) := hk
  clear hZ hu hk
  obtain ⟨W1, hW1⟩ : ∃ W1, W1 = ((w.alloc (.cells #[.bool na, .slice ao al ac, .slice aO aL aC] 27)).alloc (.cells #[.bool nb, .slice bo bl bc, .slice bO bL bC] 27)).alloc (.cells #[.bool false, .slice none 0 0, .slice none 0 0] 27) := ⟨_, rfl⟩
  have qa : QCell W1 (w.heap.size) na (.slice ao al ac) (.slice aO aL aC) := by rw [hW1]; exact (qcell_step (qcell_step (qcell_new _ (by simp))))
  have qb : QCell W1 (w.heap.size + 1) nb (.slice bo bl bc) (.slice bO bL bC) := by rw [hW1]; exact (qcell_step (qcell_new _ (by simp)))
  have qR : QCell W1 (w.heap.size + 1 + 1) false (.slice none 0 0) (.slice none 0 0) := by rw [hW1]; exact (qcell_new _ (by simp))
  have hb : Below w.heap.size w W1 := by rw [hW1]; exact bstep (bstep (belowA w _) (belowA _ _)) (belowA _ _)
  have hsz : w.heap.size + 1 + 1 < W1.heap.size := by rw [hW1]; simp
  replace hA := hA.below hb
  replace hB := hB.below hb
  have HW1 : Hid (W1 = ((w.alloc (.cells #[.bool na, .slice ao al ac, .slice aO aL aC] 27)).alloc (.cells #[.bool nb, .slice bo bl bc, .slice bO bL bC] 27)).alloc (.cells #[.bool false, .slice none 0 0, .slice none 0 0] 27)) := hW1
  clear hW1
  go_enter Tryz.func43, Tryz.ntmps43
  go_wp2_with fail
  rw [← HW1.out]
  clear HW1
  obtain ⟨g, hg⟩ : ∃ g, g = w.heap.size := ⟨_, rfl⟩
  rw [← hg] at qa qb qR hsz ⊢
  have HG : Hid (g = w.heap.size) := hg
  clear hg
  obtain ⟨cqa0, cqa1, cqa2⟩ := qa.cells
  obtain ⟨cqb0, cqb1, cqb2⟩ := qb.cells
  obtain ⟨cqR0, cqR1, cqR2⟩ := qR.cells
  go_wp2_with fail
  clear cqa0 cqa1 cqa2 cqb0 cqb1 cqb2 cqR0 cqR1 cqR2
  have hq := qFloor hA
  rw [flo_nF HU.out.pos] at hq
  refine (hq).mono ?_
  rintro e w2 ⟨v, rfl, ho, b⟩
  clear hq
  have ib := ho.ib HN.out.len
  clear ho
  obtain ⟨zn, zo, zl, zc, zx, rfl, z1, z2, z3⟩ := id ib
  clear z1 z2 z3 zx
  replace hA := hA.below b
  replace hB := hB.below b
  replace qa := qa.below b
  replace qb := qb.below b
  replace qR := qR.below b
  replace hb := bstep hb b
  replace hsz := Nat.lt_of_lt_of_le hsz b.size
  clear b
  obtain ⟨cqa0, cqa1, cqa2⟩ := qa.cells
  obtain ⟨cqb0, cqb1, cqb2⟩ := qb.cells
  obtain ⟨cqR0, cqR1, cqR2⟩ := qR.cells
  go_wp2_with fail
  clear cqa0 cqa1 cqa2 cqb0 cqb1 cqb2 cqR0 cqR1 cqR2
  have hq : Calls Tryz.prog 26 #[.agg #[.bool zn, .slice zo zl zc]] w2 fun e w' => REnd w2 (NF a) e w' := wholly3 ib
  have hszz := hsz
  refine (hq).mono ?_
  rintro e w3 ⟨v, rfl, hv9, b⟩
  clear hq
  have hoN := hv9.rehome (B' := g + 1 + 1 + 1) hszz
  clear hszz
  obtain ⟨m, d9, rfl, hm, hd9, hap⟩ := id hv9
  obtain ⟨No, Nl, Nc, rfl⟩ := hm.sl
  obtain ⟨NO, NL, NC, rfl⟩ := hd9.sl
  clear hm hd9 hap
  clear hv9
  generalize decide ((NF a).num < 0) = nN at *
  replace hA := hA.below b
  replace hB := hB.below b
  replace ib := ib.below b
  replace qa := qa.below b
  replace qb := qb.below b
  replace qR := qR.below b
  replace hb := bstep hb b
  replace hsz := Nat.lt_of_lt_of_le hsz b.size
  clear b
  clear ib
  obtain ⟨W4, hW4⟩ : ∃ W, W = w3.alloc (.cells #[.bool nN, .slice No Nl Nc, .slice NO NL NC] 27) := ⟨_, rfl⟩
  have qN : QCell W4 (w3.heap.size) nN (.slice No Nl Nc) (.slice NO NL NC) := by rw [hW4]; exact (qcell_new _ rfl)
  have b : Below w3.heap.size w3 W4 := by rw [hW4]; exact belowA _ _
  replace hA := hA.below b
  replace hB := hB.below b
  replace hoN := hoN.below b
  replace qa := qa.below b
  replace qb := qb.below b
  replace qR := qR.below b
  replace hb := bstep hb b
  replace hsz := Nat.lt_of_lt_of_le hsz b.size
  clear b
  have rqa0 : (w3.alloc (.cells #[.bool nN, .slice No Nl Nc, .slice NO NL NC] 27)).cell? ⟨g, 0, none⟩ = some (.bool na) := by rw [← hW4]; exact qa.cells.1
  have rqa1 : (w3.alloc (.cells #[.bool nN, .slice No Nl Nc, .slice NO NL NC] 27)).cell? ⟨g, 1, none⟩ = some (.slice ao al ac) := by rw [← hW4]; exact qa.cells.2.1
  have rqa2 : (w3.alloc (.cells #[.bool nN, .slice No Nl Nc, .slice NO NL NC] 27)).cell? ⟨g, 2, none⟩ = some (.slice aO aL aC) := by rw [← hW4]; exact qa.cells.2.2
  have rqb0 : (w3.alloc (.cells #[.bool nN, .slice No Nl Nc, .slice NO NL NC] 27)).cell? ⟨g + 1, 0, none⟩ = some (.bool nb) := by rw [← hW4]; exact qb.cells.1
  have rqb1 : (w3.alloc (.cells #[.bool nN, .slice No Nl Nc, .slice NO NL NC] 27)).cell? ⟨g + 1, 1, none⟩ = some (.slice bo bl bc) := by rw [← hW4]; exact qb.cells.2.1
  have rqb2 : (w3.alloc (.cells #[.bool nN, .slice No Nl Nc, .slice NO NL NC] 27)).cell? ⟨g + 1, 2, none⟩ = some (.slice bO bL bC) := by rw [← hW4]; exact qb.cells.2.2
  have rqR0 : (w3.alloc (.cells #[.bool nN, .slice No Nl Nc, .slice NO NL NC] 27)).cell? ⟨g + 1 + 1, 0, none⟩ = some (.bool false) := by rw [← hW4]; exact qR.cells.1
  have rqR1 : (w3.alloc (.cells #[.bool nN, .slice No Nl Nc, .slice NO NL NC] 27)).cell? ⟨g + 1 + 1, 1, none⟩ = some (.slice none 0 0) := by rw [← hW4]; exact qR.cells.2.1
  have rqR2 : (w3.alloc (.cells #[.bool nN, .slice No Nl Nc, .slice NO NL NC] 27)).cell? ⟨g + 1 + 1, 2, none⟩ = some (.slice none 0 0) := by rw [← hW4]; exact qR.cells.2.2
  have rqN0 : (w3.alloc (.cells #[.bool nN, .slice No Nl Nc, .slice NO NL NC] 27)).cell? ⟨w3.heap.size, 0, none⟩ = some (.bool nN) := by rw [← hW4]; exact qN.cells.1
  have rqN1 : (w3.alloc (.cells #[.bool nN, .slice No Nl Nc, .slice NO NL NC] 27)).cell? ⟨w3.heap.size, 1, none⟩ = some (.slice No Nl Nc) := by rw [← hW4]; exact qN.cells.2.1
  have rqN2 : (w3.alloc (.cells #[.bool nN, .slice No Nl Nc, .slice NO NL NC] 27)).cell? ⟨w3.heap.size, 2, none⟩ = some (.slice NO NL NC) := by rw [← hW4]; exact qN.cells.2.2
  obtain ⟨v4, hv4⟩ : ∃ v, v = w3.heap.size := ⟨_, rfl⟩
  rw [← hv4] at qN
  have HW4 : Hid (W4 = w3.alloc (.cells #[.bool nN, .slice No Nl Nc, .slice NO NL NC] 27)) := hW4
  have Hv4 : Hid (v4 = w3.heap.size) := hv4
  clear hW4 hv4
  go_wp2_with fail
  rw [← HW4.out, ← Hv4.out]
  clear HW4 Hv4 rqa0 rqa1 rqa2 rqb0 rqb1 rqb2 rqR0 rqR1 rqR2 rqN0 rqN1 rqN2
  have rN := hoN.rq HSA.out.NF'
  by_cases h0 : a.num.natAbs % a.den = 0
  · have hq := qCmp hA rN
    rw [(cmp_NF HU.out.pos).2 h0] at hq
    refine (hq).mono ?_
    rintro e w105 ⟨rfl, b⟩
    clear hq
    replace hA := hA.below b
    replace hB := hB.below b
    replace hoN := hoN.below b
    replace rN := rN.below b
    replace qa := qa.below b
    replace qb := qb.below b
    replace qR := qR.below b
    replace qN := qN.below b
    replace hb := bstep hb b
    replace hsz := Nat.lt_of_lt_of_le hsz b.size
    clear b
    have hz9 : Z = _ := HZ.out.trans (sQ_int9 h0)
    rw [← hz9] at hoN
    obtain ⟨m, d, he, hm, hd, hap⟩ := hoN
    simp only [Value.agg.injEq, Array.mk.injEq, List.cons.injEq, Value.bool.injEq, and_true] at he
    obtain ⟨hbb, rfl, rfl⟩ := he
    have HE : Hid (REnd w Z (.returned (.agg #[.bool nN, .slice No Nl Nc, .slice NO NL NC])) (((w105.setCell ⟨g + 1 + 1, 0, none⟩ (.bool nN)).setCell ⟨g + 1 + 1, 1, none⟩ (.slice No Nl Nc)).setCell ⟨g + 1 + 1, 2, none⟩ (.slice NO NL NC))) := rat_done hbb (by rw [HG.out]; omega) hm hd hap (Nat.lt_succ_self _) hb
    have HW : Hid (QCell (((w105.setCell ⟨g + 1 + 1, 0, none⟩ (.bool nN)).setCell ⟨g + 1 + 1, 1, none⟩ (.slice No Nl Nc)).setCell ⟨g + 1 + 1, 2, none⟩ (.slice NO NL NC)) (g + 1 + 1) nN (.slice No Nl Nc) (.slice NO NL NC)) := qR.write _ _ _
    obtain ⟨y0, y1, y2⟩ := qR.cells
    have f0 := qR.thaw 0
    have f1 := qR.thaw 1
    have f2 := qR.thaw 2
    obtain ⟨c0, c1, c2⟩ := qN.cells
    clear hz9 hbb hm hd hap hb hsz qa qb qR qN hA hB rN
    go_wp2_with fail
    (try simp only [Exit.inBlock, Exit.then])
    exact bodyPost_ret (results_cell_row rfl _ _ (g + 1 + 1) 27 _ (0, 0) _ rfl HW.out Tryz.underlying27 rfl (by kernel_rfl)) rfl HE.out
  · have hq := qCmp hA rN
    obtain ⟨c, hc⟩ : ∃ c, c = cmpQ a (NF a) := ⟨_, rfl⟩
    have hc0 : ¬ c = 0 := by rw [hc]; exact fun e => h0 ((cmp_NF HU.out.pos).1 e)
    rw [← hc] at hq
    clear hc
    refine (hq).mono ?_
    rintro e w105 ⟨rfl, b⟩
    clear hq
    replace hA := hA.below b
    replace hB := hB.below b
    replace hoN := hoN.below b
    replace rN := rN.below b
    replace qa := qa.below b
    replace qb := qb.below b
    replace qR := qR.below b
    replace qN := qN.below b
    replace hb := bstep hb b
    replace hsz := Nat.lt_of_lt_of_le hsz b.size
    clear b
    obtain ⟨cqa0, cqa1, cqa2⟩ := qa.cells
    obtain ⟨cqb0, cqb1, cqb2⟩ := qb.cells
    obtain ⟨cqR0, cqR1, cqR2⟩ := qR.cells
    obtain ⟨cqN0, cqN1, cqN2⟩ := qN.cells
    go_wp2_with fail
    clear cqa0 cqa1 cqa2 cqb0 cqb1 cqb2 cqR0 cqR1 cqR2 cqN0 cqN1 cqN2
    have HS1 : Hid (RSz (1 : Rat) 40) := RSz.one9
    go_cut [6] (fun t6 wx => ∃ v n o l c O L C, t6 = .pointer (some ⟨v, 0, none⟩) ∧ QCell wx v n (.slice o l c) (.slice O L C) ∧ ROwn (g + 1 + 1 + 1) wx (.agg #[.bool n, .slice o l c, .slice O L C]) (NF a + 1) ∧ Below w105.heap.size w105 wx)
    case first =>
      have KEEP : ∀ u, Below w105.heap.size w105 u → L2.AllL u [(0, fun w' => w'.cell? ⟨v4, 0, none⟩ = some (.bool nN) ∧ w'.cell? ⟨v4, 1, none⟩ = some (.slice No Nl Nc) ∧ w'.cell? ⟨v4, 2, none⟩ = some (.slice NO NL NC))] := fun u B => ⟨(qN.below B).cells, trivial⟩
      refine L2.region_late [(0, fun w' => w'.cell? ⟨v4, 0, none⟩ = some (.bool nN) ∧ w'.cell? ⟨v4, 1, none⟩ = some (.slice No Nl Nc) ∧ w'.cell? ⟨v4, 2, none⟩ = some (.slice NO NL NC))] (by kernel_rfl) ?_
      have B0 : Below w105.heap.size w105 w105.drew := below_drew' _
      obtain ⟨w0, hw0⟩ : ∃ u, u = w105.drew := ⟨_, rfl⟩
      rw [← hw0] at B0 ⊢
      clear hw0
      have hHeld := KEEP _ B0
      have krN := rN.below B0
      refine L2.late_take 0 (v := .agg #[.bool nN, .slice No Nl Nc, .slice NO NL NC]) rfl (by kernel_rfl) (List.Mem.head _) (by kernel_rfl) (by kernel_rfl) (by kernel_rfl) (by kernel_rfl) (fun _ _ _ h => h) (Or.inl ⟨by rfl, ?_⟩) hHeld ?_
      · (intro u hu; (try dsimp only at hu); go_split_ands; go_simp)
      (try simp only [Act.put, putA, putB, putC])
      refine L2.late_two 1 3 (by kernel_rfl) rfl rfl (fun K hK => ?t116) (fun K hK => ?t117)
      case' t116 =>
       go_simp
       refine (small1 _).mono ?_
       rintro e w106 ⟨v, rfl, hv9, b106⟩
       have r1 := hv9.rq HS1.out
       obtain ⟨m, d9, rfl, hm, hd9, hap⟩ := id hv9
       obtain ⟨io, il, ic, rfl⟩ := hm.sl
       obtain ⟨iO, iL, iC, rfl⟩ := hd9.sl
       clear hm hd9 hap
       clear hv9
       generalize decide ((1 : Rat).num < 0) = ni at *
       replace krN := krN.below b106
       have B106 : Below w105.heap.size w105 w106 := bstep B0 b106
       clear b106
       replace hHeld := KEEP _ B106
       go_wp2_with fail
       refine hK.out _ _ (L2.AllL.kept hHeld) ?_
       clear hK K
       (try simp only [Act.put, putA, putB, putC])
       refine L2.late_two 2 3 (by kernel_rfl) rfl rfl (fun K hK => ?t111) (fun K hK => ?t112)
       case' t111 =>
        go_simp
        have hq := qAdd krN r1
        have hle : g + 1 + 1 < _ := Nat.lt_of_lt_of_le hsz B106.size
        refine hq.mono ?_
        rintro e w107 ⟨v, rfl, hv9, b107⟩
        clear hq krN r1
        have rT := hv9.rehome (B' := g + 1 + 1 + 1) hle
        clear hle
        obtain ⟨m, d9, rfl, hm, hd9, hap⟩ := id hv9
        obtain ⟨Xo, Xl, Xc, rfl⟩ := hm.sl
        obtain ⟨XO, XL, XC, rfl⟩ := hd9.sl
        clear hm hd9 hap
        clear hv9
        generalize decide ((NF a + 1).num < 0) = nX at *
        have B107 : Below w105.heap.size w105 w107 := bstep B106 b107
        clear b107
        replace hHeld := KEEP _ B107
        go_wp2_with fail
        refine hK.out _ _ (L2.AllL.kept hHeld) ?_
        clear hK K
        (try simp only [Act.put, putA, putB, putC])
        refine L2.late_step 3 (by kernel_rfl) rfl (fun K hK => ?_)
        go_simp
        obtain ⟨w108, vx, hw, hv, pvx, b108, B108⟩ := new_pr B107
        rw [hw, hv]
        clear hw hv
        replace rT := rT.below b108
        clear b108
        replace hHeld := KEEP _ B108
        refine hK.out _ _ (L2.AllL.kept hHeld) ?_
        clear hK K
        (try simp only [Act.put, putA, putB, putC])
        have Bz := B108
        obtain ⟨wl, rfl⟩ : ∃ u, u = w108 := ⟨_, rfl⟩
       case' t112 =>
        go_simp
        obtain ⟨w109, vx, hw, hv, pvx, b109, B109⟩ := new_pr B106
        rw [hw, hv]
        clear hw hv
        replace krN := krN.below b109
        replace r1 := r1.below b109
        clear b109
        replace hHeld := KEEP _ B109
        refine hK.out _ _ (L2.AllL.kept hHeld) ?_
        clear hK K
        (try simp only [Act.put, putA, putB, putC])
        refine L2.late_step 2 (by kernel_rfl) rfl (fun K hK => ?_)
        go_simp
        have hq := qAdd krN r1
        have hle : g + 1 + 1 < _ := Nat.lt_of_lt_of_le hsz B109.size
        refine hq.mono ?_
        rintro e w110 ⟨v, rfl, hv9, b110⟩
        clear hq krN r1
        have rT := hv9.rehome (B' := g + 1 + 1 + 1) hle
        clear hle
        obtain ⟨m, d9, rfl, hm, hd9, hap⟩ := id hv9
        obtain ⟨Xo, Xl, Xc, rfl⟩ := hm.sl
        obtain ⟨XO, XL, XC, rfl⟩ := hd9.sl
        clear hm hd9 hap
        clear hv9
        generalize decide ((NF a + 1).num < 0) = nX at *
        replace pvx := pvx.below b110
        have B110 : Below w105.heap.size w105 w110 := bstep B109 b110
        clear b110
        replace hHeld := KEEP _ B110
        go_wp2_with fail
        refine hK.out _ _ (L2.AllL.kept hHeld) ?_
        clear hK K
        (try simp only [Act.put, putA, putB, putC])
        have Bz := B110
        obtain ⟨wl, rfl⟩ : ∃ u, u = w110 := ⟨_, rfl⟩
      case' t117 =>
       go_simp
       obtain ⟨w113, vx, hw, hv, pvx, b113, B113⟩ := new_pr B0
       rw [hw, hv]
       clear hw hv
       replace krN := krN.below b113
       clear b113
       replace hHeld := KEEP _ B113
       refine hK.out _ _ (L2.AllL.kept hHeld) ?_
       clear hK K
       (try simp only [Act.put, putA, putB, putC])
       refine L2.late_step 1 (by kernel_rfl) rfl (fun K hK => ?_)
       go_simp
       refine (small1 _).mono ?_
       rintro e w114 ⟨v, rfl, hv9, b114⟩
       have r1 := hv9.rq HS1.out
       obtain ⟨m, d9, rfl, hm, hd9, hap⟩ := id hv9
       obtain ⟨io, il, ic, rfl⟩ := hm.sl
       obtain ⟨iO, iL, iC, rfl⟩ := hd9.sl
       clear hm hd9 hap
       clear hv9
       generalize decide ((1 : Rat).num < 0) = ni at *
       replace krN := krN.below b114
       replace pvx := pvx.below b114
       have B114 : Below w105.heap.size w105 w114 := bstep B113 b114
       clear b114
       replace hHeld := KEEP _ B114
       go_wp2_with fail
       refine hK.out _ _ (L2.AllL.kept hHeld) ?_
       clear hK K
       (try simp only [Act.put, putA, putB, putC])
       refine L2.late_step 2 (by kernel_rfl) rfl (fun K hK => ?_)
       go_simp
       have hq := qAdd krN r1
       have hle : g + 1 + 1 < _ := Nat.lt_of_lt_of_le hsz B114.size
       refine hq.mono ?_
       rintro e w115 ⟨v, rfl, hv9, b115⟩
       clear hq krN r1
       have rT := hv9.rehome (B' := g + 1 + 1 + 1) hle
       clear hle
       obtain ⟨m, d9, rfl, hm, hd9, hap⟩ := id hv9
       obtain ⟨Xo, Xl, Xc, rfl⟩ := hm.sl
       obtain ⟨XO, XL, XC, rfl⟩ := hd9.sl
       clear hm hd9 hap
       clear hv9
       generalize decide ((NF a + 1).num < 0) = nX at *
       replace pvx := pvx.below b115
       have B115 : Below w105.heap.size w105 w115 := bstep B114 b115
       clear b115
       replace hHeld := KEEP _ B115
       go_wp2_with fail
       refine hK.out _ _ (L2.AllL.kept hHeld) ?_
       clear hK K
       (try simp only [Act.put, putA, putB, putC])
       have Bz := B115
       obtain ⟨wl, rfl⟩ : ∃ u, u = w115 := ⟨_, rfl⟩
      all_goals
        have HPQ : Hid _ := pr_endO pvx rT Bz
        obtain ⟨y0, y1, y2⟩ := pvx.c.cells
        have f0 := pvx.c.thaw 0
        have f1 := pvx.c.thaw 1
        have f2 := pvx.c.thaw 2
        clear pvx rT Bz KEEP
        refine L2.late_step 4 (by kernel_rfl) rfl (fun K hK => ?_)
        go_simp
        refine hK.out _ _ ⟨kpt 2, trivial⟩ ?_
        clear hK K
        (try simp only [Act.put, putA, putB, putC])
        refine L2.late_done (by kernel_rfl) ?_ _
        clear hHeld y0 y1 y2 f0 f1 f2
        go_wp2_with fail
        go_meet
        exact ⟨_, _, _, _, _, _, _, _, rfl, HPQ.out⟩
    case rest =>
      obtain ⟨v6, nX, Xo, Xl, Xc, XO, XL, XC, rfl, qX, hoX, b⟩ := hcut
      replace hA := hA.below b
      replace hB := hB.below b
      replace hoN := hoN.below b
      replace rN := rN.below b
      replace qa := qa.below b
      replace qb := qb.below b
      replace qR := qR.below b
      replace qN := qN.below b
      replace hb := bstep hb b
      replace hsz := Nat.lt_of_lt_of_le hsz b.size
      clear b
      obtain ⟨w4, hw4⟩ : ∃ u, u = wc := ⟨_, rfl⟩
      rw [← hw4] at qa qb qR qN qX hA hB hoN rN hoX hb hsz ⊢
      clear hw4
      have rX := hoX.rq (HSA.out.NF1 h0)
      obtain ⟨cqa0, cqa1, cqa2⟩ := qa.cells
      obtain ⟨cqb0, cqb1, cqb2⟩ := qb.cells
      obtain ⟨cqR0, cqR1, cqR2⟩ := qR.cells
      obtain ⟨cqN0, cqN1, cqN2⟩ := qN.cells
      obtain ⟨cqX0, cqX1, cqX2⟩ := qX.cells
      go_wp2_with fail
      clear cqa0 cqa1 cqa2 cqb0 cqb1 cqb2 cqR0 cqR1 cqR2 cqN0 cqN1 cqN2 cqX0 cqX1 cqX2
      by_cases h6 : nF a < b.num.natAbs / b.den
      · have hq := qCmp rX hB
        obtain ⟨c2, hc⟩ : ∃ c, c = cmpQ (NF a + 1) b := ⟨_, rfl⟩
        have hc2 : c2 ≤ 0 := by rw [hc]; exact (cmp_next HU.out.pos2).2 h6
        rw [← hc] at hq
        clear hc
        refine (hq).mono ?_
        rintro e w318 ⟨rfl, b⟩
        clear hq
        replace hA := hA.below b
        replace hB := hB.below b
        replace hoN := hoN.below b
        replace rN := rN.below b
        replace hoX := hoX.below b
        replace rX := rX.below b
        replace qa := qa.below b
        replace qb := qb.below b
        replace qR := qR.below b
        replace qN := qN.below b
        replace qX := qX.below b
        replace hb := bstep hb b
        replace hsz := Nat.lt_of_lt_of_le hsz b.size
        clear b
        have hz9 : Z = _ := HZ.out.trans (sQ_next9 h0 h6)
        rw [← hz9] at hoX
        obtain ⟨m, d, he, hm, hd, hap⟩ := hoX
        simp only [Value.agg.injEq, Array.mk.injEq, List.cons.injEq, Value.bool.injEq, and_true] at he
        obtain ⟨hbb, rfl, rfl⟩ := he
        have HE : Hid (REnd w Z (.returned (.agg #[.bool nX, .slice Xo Xl Xc, .slice XO XL XC])) (((w318.setCell ⟨g + 1 + 1, 0, none⟩ (.bool nX)).setCell ⟨g + 1 + 1, 1, none⟩ (.slice Xo Xl Xc)).setCell ⟨g + 1 + 1, 2, none⟩ (.slice XO XL XC))) := rat_done hbb (by rw [HG.out]; omega) hm hd hap (Nat.lt_succ_self _) hb
        have HW : Hid (QCell (((w318.setCell ⟨g + 1 + 1, 0, none⟩ (.bool nX)).setCell ⟨g + 1 + 1, 1, none⟩ (.slice Xo Xl Xc)).setCell ⟨g + 1 + 1, 2, none⟩ (.slice XO XL XC)) (g + 1 + 1) nX (.slice Xo Xl Xc) (.slice XO XL XC)) := qR.write _ _ _
        obtain ⟨y0, y1, y2⟩ := qR.cells
        have f0 := qR.thaw 0
        have f1 := qR.thaw 1
        have f2 := qR.thaw 2
        obtain ⟨c0, c1, c2⟩ := qX.cells
        clear hz9 hbb hm hd hap hb hsz qa qb qR qN qX hA hB hoN rN rX
        go_wp2_with fail
        (try simp only [Exit.inBlock, Exit.then])
        exact bodyPost_ret (results_cell_row rfl _ _ (g + 1 + 1) 27 _ (0, 0) _ rfl HW.out Tryz.underlying27 rfl (by kernel_rfl)) rfl HE.out
      · have hq := qCmp rX hB
        obtain ⟨c2, hc⟩ : ∃ c, c = cmpQ (NF a + 1) b := ⟨_, rfl⟩
        have hc2 : ¬ c2 ≤ 0 := by rw [hc]; exact fun e => h6 ((cmp_next HU.out.pos2).1 e)
        rw [← hc] at hq
        clear hc
        refine (hq).mono ?_
        rintro e w318 ⟨rfl, b⟩
        clear hq
        replace hA := hA.below b
        replace hB := hB.below b
        replace hoN := hoN.below b
        replace rN := rN.below b
        replace hoX := hoX.below b
        replace rX := rX.below b
        replace qa := qa.below b
        replace qb := qb.below b
        replace qR := qR.below b
        replace qN := qN.below b
        replace qX := qX.below b
        replace hb := bstep hb b
        replace hsz := Nat.lt_of_lt_of_le hsz b.size
        clear b
        obtain ⟨cqa0, cqa1, cqa2⟩ := qa.cells
        obtain ⟨cqb0, cqb1, cqb2⟩ := qb.cells
        obtain ⟨cqR0, cqR1, cqR2⟩ := qR.cells
        obtain ⟨cqN0, cqN1, cqN2⟩ := qN.cells
        obtain ⟨cqX0, cqX1, cqX2⟩ := qX.cells
        go_wp2_with fail
        clear cqa0 cqa1 cqa2 cqb0 cqb1 cqb2 cqR0 cqR1 cqR2 cqN0 cqN1 cqN2 cqX0 cqX1 cqX2
        clear hoX rX hc0 hc2
        obtain ⟨hm9, _, _⟩ := btw_rest a.den_pos b.den_pos HU.out.nat.2.2 h0 h6
        have hnb : nF a = b.num.natAbs / b.den := hm9.symm
        obtain ⟨x, hx⟩ : ∃ x, x = 1 / (b - NF a) := ⟨_, rfl⟩
        obtain ⟨y, hy⟩ : ∃ y, y = 1 / (a - NF a) := ⟨_, rfl⟩
        obtain ⟨u1, u2, u3, ⟨x1, x2⟩, y1, y2⟩ := sQ_rest HU.out h0 h6 (nF a) rfl x y hx hy
        have HXY : Hid (1 / (b - NF a) = x ∧ 1 / (a - NF a) = y) := ⟨hx.symm, hy.symm⟩
        have HU2 : Hid (UpTo x y) := u1
        have HK2 : Hid (x.den + y.den ≤ K) := by show _ ≤ _; have := HK9.out; omega
        obtain ⟨sv, hsv⟩ : ∃ s, s = sQ x y := ⟨_, rfl⟩
        obtain ⟨tv, htv⟩ : ∃ t, t = 1 / sv := ⟨_, rfl⟩
        have HZ2 : Hid (NF a + tv = Z) := by rw [htv, hsv]; exact (HZ.out.trans u3).symm
        have HSV : Hid (sQ x y = sv ∧ 1 / sv = tv) := ⟨hsv.symm, htv.symm⟩
        have HSX : Hid (RSz x 40) := HSB.out.inv_fl x1 x2
        have HSY : Hid (RSz y 40) := HSA.out.inv_fl y1 y2
        have HSS : Hid (RSz sv 40) := by rw [hsv]; exact u1.sz HSX.out
        have HSZ : Hid (RSz tv 40) := by rw [htv]; exact HSS.out.inv' (by rw [hsv]; exact u1.spos9)
        have HSb : Hid (RSz (b - NF a) 40) := RSz.sub_fl HU.out.pos2 hnb HSB.out
        have HSa : Hid (RSz (a - NF a) 40) := RSz.sub_fl HU.out.pos rfl HSA.out
        have HNb : Hid ((b - NF a).num ≠ 0) := inv_ne (by rw [← hx, x1]; have := b.den_pos; omega)
        have HNa : Hid ((a - NF a).num ≠ 0) := inv_ne (by rw [← hy, y1]; have := a.den_pos; omega)
        have HNs : Hid (sv.num ≠ 0) := by have := u1.spos9; show _ ≠ _; rw [hsv]; omega
        clear hsv htv hm9 hnb hx hy u1 u2 u3 x1 x2 y1 y2 h0 h6
        go_cut [7, 8] (fun t7 t8 wx => ∃ v n o l c O L C, t7 = .pointer (some ⟨v, 0, none⟩) ∧ t8 = .int .i64 0 ∧ QCell wx v n (.slice o l c) (.slice O L C) ∧ RQ wx (.agg #[.bool n, .slice o l c, .slice O L C]) (x) ∧ Below w318.heap.size w318 wx)
        case first =>
          have KEEP : ∀ u, Below w318.heap.size w318 u → L2.AllL u [(1, fun w' => w'.cell? ⟨g + 1, 0, none⟩ = some (.bool nb) ∧ w'.cell? ⟨g + 1, 1, none⟩ = some (.slice bo bl bc) ∧ w'.cell? ⟨g + 1, 2, none⟩ = some (.slice bO bL bC)), (2, fun w' => w'.cell? ⟨v4, 0, none⟩ = some (.bool nN) ∧ w'.cell? ⟨v4, 1, none⟩ = some (.slice No Nl Nc) ∧ w'.cell? ⟨v4, 2, none⟩ = some (.slice NO NL NC))] := fun u B => ⟨(qb.below B).cells, (qN.below B).cells, trivial⟩
          refine L2.region_late [(1, fun w' => w'.cell? ⟨g + 1, 0, none⟩ = some (.bool nb) ∧ w'.cell? ⟨g + 1, 1, none⟩ = some (.slice bo bl bc) ∧ w'.cell? ⟨g + 1, 2, none⟩ = some (.slice bO bL bC)), (2, fun w' => w'.cell? ⟨v4, 0, none⟩ = some (.bool nN) ∧ w'.cell? ⟨v4, 1, none⟩ = some (.slice No Nl Nc) ∧ w'.cell? ⟨v4, 2, none⟩ = some (.slice NO NL NC))] (by kernel_rfl) ?_
          have B0 : Below w318.heap.size w318 w318.drew := below_drew' _
          obtain ⟨w0, hw0⟩ : ∃ u, u = w318.drew := ⟨_, rfl⟩
          rw [← hw0] at B0 ⊢
          clear hw0
          have hHeld := KEEP _ B0
          have khB := hB.below B0
          have krN := rN.below B0
          refine L2.late_take 1 (v := .agg #[.bool nb, .slice bo bl bc, .slice bO bL bC]) rfl (by kernel_rfl) (List.Mem.head _) (by kernel_rfl) (by kernel_rfl) (by kernel_rfl) (by kernel_rfl) (fun _ _ _ h => h) (Or.inl ⟨by rfl, ?_⟩) hHeld ?_
          · (intro u hu; (try dsimp only at hu); go_split_ands; go_simp)
          (try simp only [Act.put, putA, putB, putC])
          refine L2.late_take 2 (v := .agg #[.bool nN, .slice No Nl Nc, .slice NO NL NC]) rfl (by kernel_rfl) (List.Mem.tail _ (List.Mem.head _)) (by kernel_rfl) (by kernel_rfl) (by kernel_rfl) (by kernel_rfl) (fun _ _ _ h => h) (Or.inl ⟨by rfl, ?_⟩) hHeld ?_
          · (intro u hu; (try dsimp only at hu); go_split_ands; go_simp)
          (try simp only [Act.put, putA, putB, putC])
          refine L2.late_two 0 8 (by kernel_rfl) rfl rfl (fun K hK => ?t336) (fun K hK => ?t337)
          case' t336 =>
           go_simp
           refine (small1 _).mono ?_
           rintro e w319 ⟨v, rfl, hv9, b319⟩
           have r1 := hv9.rq HS1.out
           obtain ⟨m, d9, rfl, hm, hd9, hap⟩ := id hv9
           obtain ⟨io, il, ic, rfl⟩ := hm.sl
           obtain ⟨iO, iL, iC, rfl⟩ := hd9.sl
           clear hm hd9 hap
           clear hv9
           generalize decide ((1 : Rat).num < 0) = ni at *
           replace khB := khB.below b319
           replace krN := krN.below b319
           have B319 : Below w318.heap.size w318 w319 := bstep B0 b319
           clear b319
           replace hHeld := KEEP _ B319
           go_wp2_with fail
           refine hK.out _ _ (L2.AllL.kept hHeld) ?_
           clear hK K
           (try simp only [Act.put, putA, putB, putC])
           refine L2.late_two 3 8 (by kernel_rfl) rfl rfl (fun K hK => ?t330) (fun K hK => ?t331)
           case' t330 =>
            go_simp
            have hq := qSub khB krN
            refine hq.mono ?_
            rintro e w320 ⟨v, rfl, hv9, b320⟩
            clear hq khB krN
            have r2 := hv9.rq HSb.out
            obtain ⟨m, d9, rfl, hm, hd9, hap⟩ := id hv9
            obtain ⟨jo, jl, jc, rfl⟩ := hm.sl
            obtain ⟨jO, jL, jC, rfl⟩ := hd9.sl
            clear hm hd9 hap
            clear hv9
            generalize decide ((b - NF a).num < 0) = nj at *
            replace r1 := r1.below b320
            have B320 : Below w318.heap.size w318 w320 := bstep B319 b320
            clear b320
            replace hHeld := KEEP _ B320
            go_wp2_with fail
            refine hK.out _ _ (L2.AllL.kept hHeld) ?_
            clear hK K
            (try simp only [Act.put, putA, putB, putC])
            refine L2.late_two 4 8 (by kernel_rfl) rfl rfl (fun K hK => ?t325) (fun K hK => ?t326)
            case' t325 =>
             go_simp
             have hq := qDiv r1 r2 HNb.out
             rw [HXY.out.1] at hq
             refine hq.mono ?_
             rintro e w321 ⟨v, rfl, hv9, b321⟩
             clear hq r1 r2
             have rT := hv9.rq HSX.out
             obtain ⟨m, d9, rfl, hm, hd9, hap⟩ := id hv9
             obtain ⟨ko, kl, kc, rfl⟩ := hm.sl
             obtain ⟨kO, kL, kC, rfl⟩ := hd9.sl
             clear hm hd9 hap
             clear hv9
             generalize decide ((x).num < 0) = nk at *
             have B321 : Below w318.heap.size w318 w321 := bstep B320 b321
             clear b321
             replace hHeld := KEEP _ B321
             go_wp2_with fail
             refine hK.out _ _ (L2.AllL.kept hHeld) ?_
             clear hK K
             (try simp only [Act.put, putA, putB, putC])
             refine L2.late_free 5 (v := .tuple #[.agg #[.bool nk, .slice ko kl kc, .slice kO kL kC], .int .i64 0]) rfl (by kernel_rfl) (by kernel_rfl) (by kernel_rfl) (by kernel_rfl) (by kernel_rfl) (by kernel_rfl) (fun _ _ _ h => h) (Or.inl ⟨by rfl, ?_⟩) hHeld ?_
             · (intro u _; go_simp)
             (try simp only [Act.put, putA, putB, putC])
             refine L2.late_free 6 (v := .agg #[.bool nk, .slice ko kl kc, .slice kO kL kC]) rfl (by kernel_rfl) (by kernel_rfl) (by kernel_rfl) (by kernel_rfl) (by kernel_rfl) (by kernel_rfl) (fun _ _ _ h => h) (Or.inl ⟨by rfl, ?_⟩) hHeld ?_
             · (intro u _; go_simp)
             (try simp only [Act.put, putA, putB, putC])
             refine L2.late_free 7 (v := .int .i64 0) rfl (by kernel_rfl) (by kernel_rfl) (by kernel_rfl) (by kernel_rfl) (by kernel_rfl) (by kernel_rfl) (fun _ _ _ h => h) (Or.inl ⟨by rfl, ?_⟩) hHeld ?_
             · (intro u _; go_simp)
             (try simp only [Act.put, putA, putB, putC])
             refine L2.late_step 8 (by kernel_rfl) rfl (fun K hK => ?_)
             go_simp
             obtain ⟨w322, vx, hw, hv, pvx, b322, B322⟩ := new_pr B321
             rw [hw, hv]
             clear hw hv
             replace rT := rT.below b322
             clear b322
             replace hHeld := KEEP _ B322
             refine hK.out _ _ (L2.AllL.kept hHeld) ?_
             clear hK K
             (try simp only [Act.put, putA, putB, putC])
             have Bz := B322
             obtain ⟨wl, rfl⟩ : ∃ u, u = w322 := ⟨_, rfl⟩
            case' t326 =>
             go_simp
             obtain ⟨w323, vx, hw, hv, pvx, b323, B323⟩ := new_pr B320
             rw [hw, hv]
             clear hw hv
             replace r1 := r1.below b323
             replace r2 := r2.below b323
             clear b323
             replace hHeld := KEEP _ B323
             refine hK.out _ _ (L2.AllL.kept hHeld) ?_
             clear hK K
             (try simp only [Act.put, putA, putB, putC])
             refine L2.late_step 4 (by kernel_rfl) rfl (fun K hK => ?_)
             go_simp
             have hq := qDiv r1 r2 HNb.out
             rw [HXY.out.1] at hq
             refine hq.mono ?_
             rintro e w324 ⟨v, rfl, hv9, b324⟩
             clear hq r1 r2
             have rT := hv9.rq HSX.out
             obtain ⟨m, d9, rfl, hm, hd9, hap⟩ := id hv9
             obtain ⟨ko, kl, kc, rfl⟩ := hm.sl
             obtain ⟨kO, kL, kC, rfl⟩ := hd9.sl
             clear hm hd9 hap
             clear hv9
             generalize decide ((x).num < 0) = nk at *
             replace pvx := pvx.below b324
             have B324 : Below w318.heap.size w318 w324 := bstep B323 b324
             clear b324
             replace hHeld := KEEP _ B324
             go_wp2_with fail
             refine hK.out _ _ (L2.AllL.kept hHeld) ?_
             clear hK K
             (try simp only [Act.put, putA, putB, putC])
             refine L2.late_free 5 (v := .tuple #[.agg #[.bool nk, .slice ko kl kc, .slice kO kL kC], .int .i64 0]) rfl (by kernel_rfl) (by kernel_rfl) (by kernel_rfl) (by kernel_rfl) (by kernel_rfl) (by kernel_rfl) (fun _ _ _ h => h) (Or.inl ⟨by rfl, ?_⟩) hHeld ?_
             · (intro u _; go_simp)
             (try simp only [Act.put, putA, putB, putC])
             refine L2.late_free 6 (v := .agg #[.bool nk, .slice ko kl kc, .slice kO kL kC]) rfl (by kernel_rfl) (by kernel_rfl) (by kernel_rfl) (by kernel_rfl) (by kernel_rfl) (by kernel_rfl) (fun _ _ _ h => h) (Or.inl ⟨by rfl, ?_⟩) hHeld ?_
             · (intro u _; go_simp)
             (try simp only [Act.put, putA, putB, putC])
             refine L2.late_free 7 (v := .int .i64 0) rfl (by kernel_rfl) (by kernel_rfl) (by kernel_rfl) (by kernel_rfl) (by kernel_rfl) (by kernel_rfl) (fun _ _ _ h => h) (Or.inl ⟨by rfl, ?_⟩) hHeld ?_
             · (intro u _; go_simp)
             (try simp only [Act.put, putA, putB, putC])
             have Bz := B324
             obtain ⟨wl, rfl⟩ : ∃ u, u = w324 := ⟨_, rfl⟩
           case' t331 =>
            go_simp
            obtain ⟨w327, vx, hw, hv, pvx, b327, B327⟩ := new_pr B319
            rw [hw, hv]
            clear hw hv
            replace khB := khB.below b327
            replace krN := krN.below b327
            replace r1 := r1.below b327
            clear b327
            replace hHeld := KEEP _ B327
            refine hK.out _ _ (L2.AllL.kept hHeld) ?_
            clear hK K
            (try simp only [Act.put, putA, putB, putC])
            refine L2.late_step 3 (by kernel_rfl) rfl (fun K hK => ?_)
            go_simp
            have hq := qSub khB krN
            refine hq.mono ?_
            rintro e w328 ⟨v, rfl, hv9, b328⟩
            clear hq khB krN
            have r2 := hv9.rq HSb.out
            obtain ⟨m, d9, rfl, hm, hd9, hap⟩ := id hv9
            obtain ⟨jo, jl, jc, rfl⟩ := hm.sl
            obtain ⟨jO, jL, jC, rfl⟩ := hd9.sl
            clear hm hd9 hap
            clear hv9
            generalize decide ((b - NF a).num < 0) = nj at *
            replace r1 := r1.below b328
            replace pvx := pvx.below b328
            have B328 : Below w318.heap.size w318 w328 := bstep B327 b328
            clear b328
            replace hHeld := KEEP _ B328
            go_wp2_with fail
            refine hK.out _ _ (L2.AllL.kept hHeld) ?_
            clear hK K
            (try simp only [Act.put, putA, putB, putC])
            refine L2.late_step 4 (by kernel_rfl) rfl (fun K hK => ?_)
            go_simp
            have hq := qDiv r1 r2 HNb.out
            rw [HXY.out.1] at hq
            refine hq.mono ?_
            rintro e w329 ⟨v, rfl, hv9, b329⟩
            clear hq r1 r2
            have rT := hv9.rq HSX.out
            obtain ⟨m, d9, rfl, hm, hd9, hap⟩ := id hv9
            obtain ⟨ko, kl, kc, rfl⟩ := hm.sl
            obtain ⟨kO, kL, kC, rfl⟩ := hd9.sl
            clear hm hd9 hap
            clear hv9
            generalize decide ((x).num < 0) = nk at *
            replace pvx := pvx.below b329
            have B329 : Below w318.heap.size w318 w329 := bstep B328 b329
            clear b329
            replace hHeld := KEEP _ B329
            go_wp2_with fail
            refine hK.out _ _ (L2.AllL.kept hHeld) ?_
            clear hK K
            (try simp only [Act.put, putA, putB, putC])
            refine L2.late_free 5 (v := .tuple #[.agg #[.bool nk, .slice ko kl kc, .slice kO kL kC], .int .i64 0]) rfl (by kernel_rfl) (by kernel_rfl) (by kernel_rfl) (by kernel_rfl) (by kernel_rfl) (by kernel_rfl) (fun _ _ _ h => h) (Or.inl ⟨by rfl, ?_⟩) hHeld ?_
            · (intro u _; go_simp)
            (try simp only [Act.put, putA, putB, putC])
            refine L2.late_free 6 (v := .agg #[.bool nk, .slice ko kl kc, .slice kO kL kC]) rfl (by kernel_rfl) (by kernel_rfl) (by kernel_rfl) (by kernel_rfl) (by kernel_rfl) (by kernel_rfl) (fun _ _ _ h => h) (Or.inl ⟨by rfl, ?_⟩) hHeld ?_
            · (intro u _; go_simp)
            (try simp only [Act.put, putA, putB, putC])
            refine L2.late_free 7 (v := .int .i64 0) rfl (by kernel_rfl) (by kernel_rfl) (by kernel_rfl) (by kernel_rfl) (by kernel_rfl) (by kernel_rfl) (fun _ _ _ h => h) (Or.inl ⟨by rfl, ?_⟩) hHeld ?_
            · (intro u _; go_simp)
            (try simp only [Act.put, putA, putB, putC])
            have Bz := B329
            obtain ⟨wl, rfl⟩ : ∃ u, u = w329 := ⟨_, rfl⟩
          case' t337 =>
           go_simp
           obtain ⟨w332, vx, hw, hv, pvx, b332, B332⟩ := new_pr B0
           rw [hw, hv]
           clear hw hv
           replace khB := khB.below b332
           replace krN := krN.below b332
           clear b332
           replace hHeld := KEEP _ B332
           refine hK.out _ _ (L2.AllL.kept hHeld) ?_
           clear hK K
           (try simp only [Act.put, putA, putB, putC])
           refine L2.late_step 0 (by kernel_rfl) rfl (fun K hK => ?_)
           go_simp
           refine (small1 _).mono ?_
           rintro e w333 ⟨v, rfl, hv9, b333⟩
           have r1 := hv9.rq HS1.out
           obtain ⟨m, d9, rfl, hm, hd9, hap⟩ := id hv9
           obtain ⟨io, il, ic, rfl⟩ := hm.sl
           obtain ⟨iO, iL, iC, rfl⟩ := hd9.sl
           clear hm hd9 hap
           clear hv9
           generalize decide ((1 : Rat).num < 0) = ni at *
           replace khB := khB.below b333
           replace krN := krN.below b333
           replace pvx := pvx.below b333
           have B333 : Below w318.heap.size w318 w333 := bstep B332 b333
           clear b333
           replace hHeld := KEEP _ B333
           go_wp2_with fail
           refine hK.out _ _ (L2.AllL.kept hHeld) ?_
           clear hK K
           (try simp only [Act.put, putA, putB, putC])
           refine L2.late_step 3 (by kernel_rfl) rfl (fun K hK => ?_)
           go_simp
           have hq := qSub khB krN
           refine hq.mono ?_
           rintro e w334 ⟨v, rfl, hv9, b334⟩
           clear hq khB krN
           have r2 := hv9.rq HSb.out
           obtain ⟨m, d9, rfl, hm, hd9, hap⟩ := id hv9
           obtain ⟨jo, jl, jc, rfl⟩ := hm.sl
           obtain ⟨jO, jL, jC, rfl⟩ := hd9.sl
           clear hm hd9 hap
           clear hv9
           generalize decide ((b - NF a).num < 0) = nj at *
           replace r1 := r1.below b334
           replace pvx := pvx.below b334
           have B334 : Below w318.heap.size w318 w334 := bstep B333 b334
           clear b334
           replace hHeld := KEEP _ B334
           go_wp2_with fail
           refine hK.out _ _ (L2.AllL.kept hHeld) ?_
           clear hK K
           (try simp only [Act.put, putA, putB, putC])
           refine L2.late_step 4 (by kernel_rfl) rfl (fun K hK => ?_)
           go_simp
           have hq := qDiv r1 r2 HNb.out
           rw [HXY.out.1] at hq
           refine hq.mono ?_
           rintro e w335 ⟨v, rfl, hv9, b335⟩
           clear hq r1 r2
           have rT := hv9.rq HSX.out
           obtain ⟨m, d9, rfl, hm, hd9, hap⟩ := id hv9
           obtain ⟨ko, kl, kc, rfl⟩ := hm.sl
           obtain ⟨kO, kL, kC, rfl⟩ := hd9.sl
           clear hm hd9 hap
           clear hv9
           generalize decide ((x).num < 0) = nk at *
           replace pvx := pvx.below b335
           have B335 : Below w318.heap.size w318 w335 := bstep B334 b335
           clear b335
           replace hHeld := KEEP _ B335
           go_wp2_with fail
           refine hK.out _ _ (L2.AllL.kept hHeld) ?_
           clear hK K
           (try simp only [Act.put, putA, putB, putC])
           refine L2.late_free 5 (v := .tuple #[.agg #[.bool nk, .slice ko kl kc, .slice kO kL kC], .int .i64 0]) rfl (by kernel_rfl) (by kernel_rfl) (by kernel_rfl) (by kernel_rfl) (by kernel_rfl) (by kernel_rfl) (fun _ _ _ h => h) (Or.inl ⟨by rfl, ?_⟩) hHeld ?_
           · (intro u _; go_simp)
           (try simp only [Act.put, putA, putB, putC])
           refine L2.late_free 6 (v := .agg #[.bool nk, .slice ko kl kc, .slice kO kL kC]) rfl (by kernel_rfl) (by kernel_rfl) (by kernel_rfl) (by kernel_rfl) (by kernel_rfl) (by kernel_rfl) (fun _ _ _ h => h) (Or.inl ⟨by rfl, ?_⟩) hHeld ?_
           · (intro u _; go_simp)
           (try simp only [Act.put, putA, putB, putC])
           refine L2.late_free 7 (v := .int .i64 0) rfl (by kernel_rfl) (by kernel_rfl) (by kernel_rfl) (by kernel_rfl) (by kernel_rfl) (by kernel_rfl) (fun _ _ _ h => h) (Or.inl ⟨by rfl, ?_⟩) hHeld ?_
           · (intro u _; go_simp)
           (try simp only [Act.put, putA, putB, putC])
           have Bz := B335
           obtain ⟨wl, rfl⟩ : ∃ u, u = w335 := ⟨_, rfl⟩
          all_goals
            have HPQ : Hid _ := pr_end pvx rT Bz
            obtain ⟨y0, y1, y2⟩ := pvx.c.cells
            have f0 := pvx.c.thaw 0
            have f1 := pvx.c.thaw 1
            have f2 := pvx.c.thaw 2
            clear pvx rT Bz KEEP
            refine L2.late_step 9 (by kernel_rfl) rfl (fun K hK => ?_)
            go_simp
            refine hK.out _ _ ⟨kpt 3, kpt 3, trivial⟩ ?_
            clear hK K
            (try simp only [Act.put, putA, putB, putC])
            refine L2.late_step 10 (by kernel_rfl) rfl (fun K hK => ?_)
            go_simp
            refine hK.out _ _ ⟨kpt 3, kpt 3, trivial⟩ ?_
            clear hK K
            (try simp only [Act.put, putA, putB, putC])
            refine L2.late_done (by kernel_rfl) ?_ _
            clear hHeld y0 y1 y2 f0 f1 f2
            go_wp2_with fail
            go_meet
            exact ⟨_, _, _, _, _, _, _, _, rfl, rfl, HPQ.out⟩
        case rest =>
          obtain ⟨vx, nx, xo, xl, xc, xO, xL, xC, rfl, rfl, qx, rx, b⟩ := hcut
          replace hA := hA.below b
          replace hB := hB.below b
          replace hoN := hoN.below b
          replace rN := rN.below b
          replace qa := qa.below b
          replace qb := qb.below b
          replace qR := qR.below b
          replace qN := qN.below b
          replace qX := qX.below b
          replace hb := bstep hb b
          replace hsz := Nat.lt_of_lt_of_le hsz b.size
          clear b
          obtain ⟨wx9, hw4⟩ : ∃ u, u = wc := ⟨_, rfl⟩
          rw [← hw4] at qa qb qR qN qX qx hA hB hoN rN rx hb hsz ⊢
          clear hw4
          obtain ⟨cqa0, cqa1, cqa2⟩ := qa.cells
          obtain ⟨cqb0, cqb1, cqb2⟩ := qb.cells
          obtain ⟨cqR0, cqR1, cqR2⟩ := qR.cells
          obtain ⟨cqN0, cqN1, cqN2⟩ := qN.cells
          obtain ⟨cqX0, cqX1, cqX2⟩ := qX.cells
          obtain ⟨cqx0, cqx1, cqx2⟩ := qx.cells
          go_wp2_with fail
          clear cqa0 cqa1 cqa2 cqb0 cqb1 cqb2 cqR0 cqR1 cqR2 cqN0 cqN1 cqN2 cqX0 cqX1 cqX2 cqx0 cqx1 cqx2
          go_cut [9, 10] (fun t9 t10 wx => ∃ v n o l c O L C, t9 = .pointer (some ⟨v, 0, none⟩) ∧ t10 = .int .i64 0 ∧ QCell wx v n (.slice o l c) (.slice O L C) ∧ RQ wx (.agg #[.bool n, .slice o l c, .slice O L C]) (y) ∧ Below wx9.heap.size wx9 wx)
          case first =>
            have KEEP : ∀ u, Below wx9.heap.size wx9 u → L2.AllL u [(1, fun w' => w'.cell? ⟨g, 0, none⟩ = some (.bool na) ∧ w'.cell? ⟨g, 1, none⟩ = some (.slice ao al ac) ∧ w'.cell? ⟨g, 2, none⟩ = some (.slice aO aL aC)), (2, fun w' => w'.cell? ⟨v4, 0, none⟩ = some (.bool nN) ∧ w'.cell? ⟨v4, 1, none⟩ = some (.slice No Nl Nc) ∧ w'.cell? ⟨v4, 2, none⟩ = some (.slice NO NL NC))] := fun u B => ⟨(qa.below B).cells, (qN.below B).cells, trivial⟩
            refine L2.region_late [(1, fun w' => w'.cell? ⟨g, 0, none⟩ = some (.bool na) ∧ w'.cell? ⟨g, 1, none⟩ = some (.slice ao al ac) ∧ w'.cell? ⟨g, 2, none⟩ = some (.slice aO aL aC)), (2, fun w' => w'.cell? ⟨v4, 0, none⟩ = some (.bool nN) ∧ w'.cell? ⟨v4, 1, none⟩ = some (.slice No Nl Nc) ∧ w'.cell? ⟨v4, 2, none⟩ = some (.slice NO NL NC))] (by kernel_rfl) ?_
            have B0 : Below wx9.heap.size wx9 wx9.drew := below_drew' _
            obtain ⟨w0, hw0⟩ : ∃ u, u = wx9.drew := ⟨_, rfl⟩
            rw [← hw0] at B0 ⊢
            clear hw0
            have hHeld := KEEP _ B0
            have khA := hA.below B0
            have krN := rN.below B0
            refine L2.late_take 1 (v := .agg #[.bool na, .slice ao al ac, .slice aO aL aC]) rfl (by kernel_rfl) (List.Mem.head _) (by kernel_rfl) (by kernel_rfl) (by kernel_rfl) (by kernel_rfl) (fun _ _ _ h => h) (Or.inl ⟨by rfl, ?_⟩) hHeld ?_
            · (intro u hu; (try dsimp only at hu); go_split_ands; go_simp)
            (try simp only [Act.put, putA, putB, putC])
            refine L2.late_take 2 (v := .agg #[.bool nN, .slice No Nl Nc, .slice NO NL NC]) rfl (by kernel_rfl) (List.Mem.tail _ (List.Mem.head _)) (by kernel_rfl) (by kernel_rfl) (by kernel_rfl) (by kernel_rfl) (fun _ _ _ h => h) (Or.inl ⟨by rfl, ?_⟩) hHeld ?_
            · (intro u hu; (try dsimp only at hu); go_split_ands; go_simp)
            (try simp only [Act.put, putA, putB, putC])
            refine L2.late_two 0 8 (by kernel_rfl) rfl rfl (fun K hK => ?t455) (fun K hK => ?t456)
            case' t455 =>
             go_simp
             refine (small1 _).mono ?_
             rintro e w438 ⟨v, rfl, hv9, b438⟩
             have r1 := hv9.rq HS1.out
             obtain ⟨m, d9, rfl, hm, hd9, hap⟩ := id hv9
             obtain ⟨io, il, ic, rfl⟩ := hm.sl
             obtain ⟨iO, iL, iC, rfl⟩ := hd9.sl
             clear hm hd9 hap
             clear hv9
             generalize decide ((1 : Rat).num < 0) = ni at *
             replace khA := khA.below b438
             replace krN := krN.below b438
             have B438 : Below wx9.heap.size wx9 w438 := bstep B0 b438
             clear b438
             replace hHeld := KEEP _ B438
             go_wp2_with fail
             refine hK.out _ _ (L2.AllL.kept hHeld) ?_
             clear hK K
             (try simp only [Act.put, putA, putB, putC])
             refine L2.late_two 3 8 (by kernel_rfl) rfl rfl (fun K hK => ?t449) (fun K hK => ?t450)
             case' t449 =>
              go_simp
              have hq := qSub khA krN
              refine hq.mono ?_
              rintro e w439 ⟨v, rfl, hv9, b439⟩
              clear hq khA krN
              have r2 := hv9.rq HSa.out
              obtain ⟨m, d9, rfl, hm, hd9, hap⟩ := id hv9
              obtain ⟨jo, jl, jc, rfl⟩ := hm.sl
              obtain ⟨jO, jL, jC, rfl⟩ := hd9.sl
              clear hm hd9 hap
              clear hv9
              generalize decide ((a - NF a).num < 0) = nj at *
              replace r1 := r1.below b439
              have B439 : Below wx9.heap.size wx9 w439 := bstep B438 b439
              clear b439
              replace hHeld := KEEP _ B439
              go_wp2_with fail
              refine hK.out _ _ (L2.AllL.kept hHeld) ?_
              clear hK K
              (try simp only [Act.put, putA, putB, putC])
              refine L2.late_two 4 8 (by kernel_rfl) rfl rfl (fun K hK => ?t444) (fun K hK => ?t445)
              case' t444 =>
               go_simp
               have hq := qDiv r1 r2 HNa.out
               rw [HXY.out.2] at hq
               refine hq.mono ?_
               rintro e w440 ⟨v, rfl, hv9, b440⟩
               clear hq r1 r2
               have rT := hv9.rq HSY.out
               obtain ⟨m, d9, rfl, hm, hd9, hap⟩ := id hv9
               obtain ⟨ko, kl, kc, rfl⟩ := hm.sl
               obtain ⟨kO, kL, kC, rfl⟩ := hd9.sl
               clear hm hd9 hap
               clear hv9
               generalize decide ((y).num < 0) = nk at *
               have B440 : Below wx9.heap.size wx9 w440 := bstep B439 b440
               clear b440
               replace hHeld := KEEP _ B440
               go_wp2_with fail
               refine hK.out _ _ (L2.AllL.kept hHeld) ?_
               clear hK K
               (try simp only [Act.put, putA, putB, putC])
               refine L2.late_free 5 (v := .tuple #[.agg #[.bool nk, .slice ko kl kc, .slice kO kL kC], .int .i64 0]) rfl (by kernel_rfl) (by kernel_rfl) (by kernel_rfl) (by kernel_rfl) (by kernel_rfl) (by kernel_rfl) (fun _ _ _ h => h) (Or.inl ⟨by rfl, ?_⟩) hHeld ?_
               · (intro u _; go_simp)
               (try simp only [Act.put, putA, putB, putC])
               refine L2.late_free 6 (v := .agg #[.bool nk, .slice ko kl kc, .slice kO kL kC]) rfl (by kernel_rfl) (by kernel_rfl) (by kernel_rfl) (by kernel_rfl) (by kernel_rfl) (by kernel_rfl) (fun _ _ _ h => h) (Or.inl ⟨by rfl, ?_⟩) hHeld ?_
               · (intro u _; go_simp)
               (try simp only [Act.put, putA, putB, putC])
               refine L2.late_free 7 (v := .int .i64 0) rfl (by kernel_rfl) (by kernel_rfl) (by kernel_rfl) (by kernel_rfl) (by kernel_rfl) (by kernel_rfl) (fun _ _ _ h => h) (Or.inl ⟨by rfl, ?_⟩) hHeld ?_
               · (intro u _; go_simp)
               (try simp only [Act.put, putA, putB, putC])
               refine L2.late_step 8 (by kernel_rfl) rfl (fun K hK => ?_)
               go_simp
               obtain ⟨w441, vx, hw, hv, pvx, b441, B441⟩ := new_pr B440
               rw [hw, hv]
               clear hw hv
               replace rT := rT.below b441
               clear b441
               replace hHeld := KEEP _ B441
               refine hK.out _ _ (L2.AllL.kept hHeld) ?_
               clear hK K
               (try simp only [Act.put, putA, putB, putC])
               have Bz := B441
               obtain ⟨wl, rfl⟩ : ∃ u, u = w441 := ⟨_, rfl⟩
              case' t445 =>
               go_simp
               obtain ⟨w442, vx, hw, hv, pvx, b442, B442⟩ := new_pr B439
               rw [hw, hv]
               clear hw hv
               replace r1 := r1.below b442
               replace r2 := r2.below b442
               clear b442
               replace hHeld := KEEP _ B442
               refine hK.out _ _ (L2.AllL.kept hHeld) ?_
               clear hK K
               (try simp only [Act.put, putA, putB, putC])
               refine L2.late_step 4 (by kernel_rfl) rfl (fun K hK => ?_)
               go_simp
               have hq := qDiv r1 r2 HNa.out
               rw [HXY.out.2] at hq
               refine hq.mono ?_
               rintro e w443 ⟨v, rfl, hv9, b443⟩
               clear hq r1 r2
               have rT := hv9.rq HSY.out
               obtain ⟨m, d9, rfl, hm, hd9, hap⟩ := id hv9
               obtain ⟨ko, kl, kc, rfl⟩ := hm.sl
               obtain ⟨kO, kL, kC, rfl⟩ := hd9.sl
               clear hm hd9 hap
               clear hv9
               generalize decide ((y).num < 0) = nk at *
               replace pvx := pvx.below b443
               have B443 : Below wx9.heap.size wx9 w443 := bstep B442 b443
               clear b443
               replace hHeld := KEEP _ B443
               go_wp2_with fail
               refine hK.out _ _ (L2.AllL.kept hHeld) ?_
               clear hK K
               (try simp only [Act.put, putA, putB, putC])
               refine L2.late_free 5 (v := .tuple #[.agg #[.bool nk, .slice ko kl kc, .slice kO kL kC], .int .i64 0]) rfl (by kernel_rfl) (by kernel_rfl) (by kernel_rfl) (by kernel_rfl) (by kernel_rfl) (by kernel_rfl) (fun _ _ _ h => h) (Or.inl ⟨by rfl, ?_⟩) hHeld ?_
               · (intro u _; go_simp)
               (try simp only [Act.put, putA, putB, putC])
               refine L2.late_free 6 (v := .agg #[.bool nk, .slice ko kl kc, .slice kO kL kC]) rfl (by kernel_rfl) (by kernel_rfl) (by kernel_rfl) (by kernel_rfl) (by kernel_rfl) (by kernel_rfl) (fun _ _ _ h => h) (Or.inl ⟨by rfl, ?_⟩) hHeld ?_
               · (intro u _; go_simp)
               (try simp only [Act.put, putA, putB, putC])
               refine L2.late_free 7 (v := .int .i64 0) rfl (by kernel_rfl) (by kernel_rfl) (by kernel_rfl) (by kernel_rfl) (by kernel_rfl) (by kernel_rfl) (fun _ _ _ h => h) (Or.inl ⟨by rfl, ?_⟩) hHeld ?_
               · (intro u _; go_simp)
               (try simp only [Act.put, putA, putB, putC])
               have Bz := B443
               obtain ⟨wl, rfl⟩ : ∃ u, u = w443 := ⟨_, rfl⟩
             case' t450 =>
              go_simp
              obtain ⟨w446, vx, hw, hv, pvx, b446, B446⟩ := new_pr B438
              rw [hw, hv]
              clear hw hv
              replace khA := khA.below b446
              replace krN := krN.below b446
              replace r1 := r1.below b446
              clear b446
              replace hHeld := KEEP _ B446
              refine hK.out _ _ (L2.AllL.kept hHeld) ?_
              clear hK K
              (try simp only [Act.put, putA, putB, putC])
              refine L2.late_step 3 (by kernel_rfl) rfl (fun K hK => ?_)
              go_simp
              have hq := qSub khA krN
              refine hq.mono ?_
              rintro e w447 ⟨v, rfl, hv9, b447⟩
              clear hq khA krN
              have r2 := hv9.rq HSa.out
              obtain ⟨m, d9, rfl, hm, hd9, hap⟩ := id hv9
              obtain ⟨jo, jl, jc, rfl⟩ := hm.sl
              obtain ⟨jO, jL, jC, rfl⟩ := hd9.sl
              clear hm hd9 hap
              clear hv9
              generalize decide ((a - NF a).num < 0) = nj at *
              replace r1 := r1.below b447
              replace pvx := pvx.below b447
              have B447 : Below wx9.heap.size wx9 w447 := bstep B446 b447
              clear b447
              replace hHeld := KEEP _ B447
              go_wp2_with fail
              refine hK.out _ _ (L2.AllL.kept hHeld) ?_
              clear hK K
              (try simp only [Act.put, putA, putB, putC])
              refine L2.late_step 4 (by kernel_rfl) rfl (fun K hK => ?_)
              go_simp
              have hq := qDiv r1 r2 HNa.out
              rw [HXY.out.2] at hq
              refine hq.mono ?_
              rintro e w448 ⟨v, rfl, hv9, b448⟩
              clear hq r1 r2
              have rT := hv9.rq HSY.out
              obtain ⟨m, d9, rfl, hm, hd9, hap⟩ := id hv9
              obtain ⟨ko, kl, kc, rfl⟩ := hm.sl
              obtain ⟨kO, kL, kC, rfl⟩ := hd9.sl
              clear hm hd9 hap
              clear hv9
              generalize decide ((y).num < 0) = nk at *
              replace pvx := pvx.below b448
              have B448 : Below wx9.heap.size wx9 w448 := bstep B447 b448
              clear b448
              replace hHeld := KEEP _ B448
              go_wp2_with fail
              refine hK.out _ _ (L2.AllL.kept hHeld) ?_
              clear hK K
              (try simp only [Act.put, putA, putB, putC])
              refine L2.late_free 5 (v := .tuple #[.agg #[.bool nk, .slice ko kl kc, .slice kO kL kC], .int .i64 0]) rfl (by kernel_rfl) (by kernel_rfl) (by kernel_rfl) (by kernel_rfl) (by kernel_rfl) (by kernel_rfl) (fun _ _ _ h => h) (Or.inl ⟨by rfl, ?_⟩) hHeld ?_
              · (intro u _; go_simp)
              (try simp only [Act.put, putA, putB, putC])
              refine L2.late_free 6 (v := .agg #[.bool nk, .slice ko kl kc, .slice kO kL kC]) rfl (by kernel_rfl) (by kernel_rfl) (by kernel_rfl) (by kernel_rfl) (by kernel_rfl) (by kernel_rfl) (fun _ _ _ h => h) (Or.inl ⟨by rfl, ?_⟩) hHeld ?_
              · (intro u _; go_simp)
              (try simp only [Act.put, putA, putB, putC])
              refine L2.late_free 7 (v := .int .i64 0) rfl (by kernel_rfl) (by kernel_rfl) (by kernel_rfl) (by kernel_rfl) (by kernel_rfl) (by kernel_rfl) (fun _ _ _ h => h) (Or.inl ⟨by rfl, ?_⟩) hHeld ?_
              · (intro u _; go_simp)
              (try simp only [Act.put, putA, putB, putC])
              have Bz := B448
              obtain ⟨wl, rfl⟩ : ∃ u, u = w448 := ⟨_, rfl⟩
            case' t456 =>
             go_simp
             obtain ⟨w451, vx, hw, hv, pvx, b451, B451⟩ := new_pr B0
             rw [hw, hv]
             clear hw hv
             replace khA := khA.below b451
             replace krN := krN.below b451
             clear b451
             replace hHeld := KEEP _ B451
             refine hK.out _ _ (L2.AllL.kept hHeld) ?_
             clear hK K
             (try simp only [Act.put, putA, putB, putC])
             refine L2.late_step 0 (by kernel_rfl) rfl (fun K hK => ?_)
             go_simp
             refine (small1 _).mono ?_
             rintro e w452 ⟨v, rfl, hv9, b452⟩
             have r1 := hv9.rq HS1.out
             obtain ⟨m, d9, rfl, hm, hd9, hap⟩ := id hv9
             obtain ⟨io, il, ic, rfl⟩ := hm.sl
             obtain ⟨iO, iL, iC, rfl⟩ := hd9.sl
             clear hm hd9 hap
             clear hv9
             generalize decide ((1 : Rat).num < 0) = ni at *
             replace khA := khA.below b452
             replace krN := krN.below b452
             replace pvx := pvx.below b452
             have B452 : Below wx9.heap.size wx9 w452 := bstep B451 b452
             clear b452
             replace hHeld := KEEP _ B452
             go_wp2_with fail
             refine hK.out _ _ (L2.AllL.kept hHeld) ?_
             clear hK K
             (try simp only [Act.put, putA, putB, putC])
             refine L2.late_step 3 (by kernel_rfl) rfl (fun K hK => ?_)
             go_simp
             have hq := qSub khA krN
             refine hq.mono ?_
             rintro e w453 ⟨v, rfl, hv9, b453⟩
             clear hq khA krN
             have r2 := hv9.rq HSa.out
             obtain ⟨m, d9, rfl, hm, hd9, hap⟩ := id hv9
             obtain ⟨jo, jl, jc, rfl⟩ := hm.sl
             obtain ⟨jO, jL, jC, rfl⟩ := hd9.sl
             clear hm hd9 hap
             clear hv9
             generalize decide ((a - NF a).num < 0) = nj at *
             replace r1 := r1.below b453
             replace pvx := pvx.below b453
             have B453 : Below wx9.heap.size wx9 w453 := bstep B452 b453
             clear b453
             replace hHeld := KEEP _ B453
             go_wp2_with fail
             refine hK.out _ _ (L2.AllL.kept hHeld) ?_
             clear hK K
             (try simp only [Act.put, putA, putB, putC])
             refine L2.late_step 4 (by kernel_rfl) rfl (fun K hK => ?_)
             go_simp
             have hq := qDiv r1 r2 HNa.out
             rw [HXY.out.2] at hq
             refine hq.mono ?_
             rintro e w454 ⟨v, rfl, hv9, b454⟩
             clear hq r1 r2
             have rT := hv9.rq HSY.out
             obtain ⟨m, d9, rfl, hm, hd9, hap⟩ := id hv9
             obtain ⟨ko, kl, kc, rfl⟩ := hm.sl
             obtain ⟨kO, kL, kC, rfl⟩ := hd9.sl
             clear hm hd9 hap
             clear hv9
             generalize decide ((y).num < 0) = nk at *
             replace pvx := pvx.below b454
             have B454 : Below wx9.heap.size wx9 w454 := bstep B453 b454
             clear b454
             replace hHeld := KEEP _ B454
             go_wp2_with fail
             refine hK.out _ _ (L2.AllL.kept hHeld) ?_
             clear hK K
             (try simp only [Act.put, putA, putB, putC])
             refine L2.late_free 5 (v := .tuple #[.agg #[.bool nk, .slice ko kl kc, .slice kO kL kC], .int .i64 0]) rfl (by kernel_rfl) (by kernel_rfl) (by kernel_rfl) (by kernel_rfl) (by kernel_rfl) (by kernel_rfl) (fun _ _ _ h => h) (Or.inl ⟨by rfl, ?_⟩) hHeld ?_
             · (intro u _; go_simp)
             (try simp only [Act.put, putA, putB, putC])
             refine L2.late_free 6 (v := .agg #[.bool nk, .slice ko kl kc, .slice kO kL kC]) rfl (by kernel_rfl) (by kernel_rfl) (by kernel_rfl) (by kernel_rfl) (by kernel_rfl) (by kernel_rfl) (fun _ _ _ h => h) (Or.inl ⟨by rfl, ?_⟩) hHeld ?_
             · (intro u _; go_simp)
             (try simp only [Act.put, putA, putB, putC])
             refine L2.late_free 7 (v := .int .i64 0) rfl (by kernel_rfl) (by kernel_rfl) (by kernel_rfl) (by kernel_rfl) (by kernel_rfl) (by kernel_rfl) (fun _ _ _ h => h) (Or.inl ⟨by rfl, ?_⟩) hHeld ?_
             · (intro u _; go_simp)
             (try simp only [Act.put, putA, putB, putC])
             have Bz := B454
             obtain ⟨wl, rfl⟩ : ∃ u, u = w454 := ⟨_, rfl⟩
            all_goals
              have HPQ : Hid _ := pr_end pvx rT Bz
              obtain ⟨y0, y1, y2⟩ := pvx.c.cells
              have f0 := pvx.c.thaw 0
              have f1 := pvx.c.thaw 1
              have f2 := pvx.c.thaw 2
              clear pvx rT Bz KEEP
              refine L2.late_step 9 (by kernel_rfl) rfl (fun K hK => ?_)
              go_simp
              refine hK.out _ _ ⟨kpt 3, kpt 3, trivial⟩ ?_
              clear hK K
              (try simp only [Act.put, putA, putB, putC])
              refine L2.late_step 10 (by kernel_rfl) rfl (fun K hK => ?_)
              go_simp
              refine hK.out _ _ ⟨kpt 3, kpt 3, trivial⟩ ?_
              clear hK K
              (try simp only [Act.put, putA, putB, putC])
              refine L2.late_done (by kernel_rfl) ?_ _
              clear hHeld y0 y1 y2 f0 f1 f2
              go_wp2_with fail
              go_meet
              exact ⟨_, _, _, _, _, _, _, _, rfl, rfl, HPQ.out⟩
          case rest =>
            obtain ⟨vy, ny, yo, yl, yc, yO, yL, yC, rfl, rfl, qy, ry, b⟩ := hcut
            replace hA := hA.below b
            replace hB := hB.below b
            replace hoN := hoN.below b
            replace rN := rN.below b
            replace rx := rx.below b
            replace qa := qa.below b
            replace qb := qb.below b
            replace qR := qR.below b
            replace qN := qN.below b
            replace qX := qX.below b
            replace qx := qx.below b
            replace hb := bstep hb b
            replace hsz := Nat.lt_of_lt_of_le hsz b.size
            clear b
            obtain ⟨wy9, hw4⟩ : ∃ u, u = wc := ⟨_, rfl⟩
            rw [← hw4] at qa qb qR qN qX qx qy hA hB hoN rN rx ry hb hsz ⊢
            clear hw4
            obtain ⟨cqa0, cqa1, cqa2⟩ := qa.cells
            obtain ⟨cqb0, cqb1, cqb2⟩ := qb.cells
            obtain ⟨cqR0, cqR1, cqR2⟩ := qR.cells
            obtain ⟨cqN0, cqN1, cqN2⟩ := qN.cells
            obtain ⟨cqX0, cqX1, cqX2⟩ := qX.cells
            obtain ⟨cqx0, cqx1, cqx2⟩ := qx.cells
            obtain ⟨cqy0, cqy1, cqy2⟩ := qy.cells
            go_wp2_with fail
            clear cqa0 cqa1 cqa2 cqb0 cqb1 cqb2 cqR0 cqR1 cqR2 cqN0 cqN1 cqN2 cqX0 cqX1 cqX2 cqx0 cqx1 cqx2 cqy0 cqy1 cqy2
            have IH9 := fun {W : World} {va vb : Value} (h1 : RQ W va x) (h2 : RQ W vb y) => (show Calls Tryz.prog 43 #[va, vb] W fun e w' => REnd W sv e w' by have h := IH.out W va vb x y h1 h2 HU2.out HK2.out; rw [HSV.out.1] at h; exact h)
            go_cut [11, 12] (fun t11 t12 wx => ∃ v n o l c O L C, t11 = .pointer (some ⟨v, 0, none⟩) ∧ t12 = .int .i64 0 ∧ QCell wx v n (.slice o l c) (.slice O L C) ∧ RQ wx (.agg #[.bool n, .slice o l c, .slice O L C]) (tv) ∧ Below wy9.heap.size wy9 wx)
            case first =>
              have KEEP : ∀ u, Below wy9.heap.size wy9 u → L2.AllL u [(1, fun w' => w'.cell? ⟨vx, 0, none⟩ = some (.bool nx) ∧ w'.cell? ⟨vx, 1, none⟩ = some (.slice xo xl xc) ∧ w'.cell? ⟨vx, 2, none⟩ = some (.slice xO xL xC)), (2, fun w' => w'.cell? ⟨vy, 0, none⟩ = some (.bool ny) ∧ w'.cell? ⟨vy, 1, none⟩ = some (.slice yo yl yc) ∧ w'.cell? ⟨vy, 2, none⟩ = some (.slice yO yL yC))] := fun u B => ⟨(qx.below B).cells, (qy.below B).cells, trivial⟩
              refine L2.region_late [(1, fun w' => w'.cell? ⟨vx, 0, none⟩ = some (.bool nx) ∧ w'.cell? ⟨vx, 1, none⟩ = some (.slice xo xl xc) ∧ w'.cell? ⟨vx, 2, none⟩ = some (.slice xO xL xC)), (2, fun w' => w'.cell? ⟨vy, 0, none⟩ = some (.bool ny) ∧ w'.cell? ⟨vy, 1, none⟩ = some (.slice yo yl yc) ∧ w'.cell? ⟨vy, 2, none⟩ = some (.slice yO yL yC))] (by kernel_rfl) ?_
              have B0 : Below wy9.heap.size wy9 wy9.drew := below_drew' _
              obtain ⟨w0, hw0⟩ : ∃ u, u = wy9.drew := ⟨_, rfl⟩
              rw [← hw0] at B0 ⊢
              clear hw0
              have hHeld := KEEP _ B0
              have krx := rx.below B0
              have kry := ry.below B0
              refine L2.late_take 1 (v := .agg #[.bool nx, .slice xo xl xc, .slice xO xL xC]) rfl (by kernel_rfl) (List.Mem.head _) (by kernel_rfl) (by kernel_rfl) (by kernel_rfl) (by kernel_rfl) (fun _ _ _ h => h) (Or.inl ⟨by rfl, ?_⟩) hHeld ?_
              · (intro u hu; (try dsimp only at hu); go_split_ands; go_simp)
              (try simp only [Act.put, putA, putB, putC])
              refine L2.late_take 2 (v := .agg #[.bool ny, .slice yo yl yc, .slice yO yL yC]) rfl (by kernel_rfl) (List.Mem.tail _ (List.Mem.head _)) (by kernel_rfl) (by kernel_rfl) (by kernel_rfl) (by kernel_rfl) (fun _ _ _ h => h) (Or.inl ⟨by rfl, ?_⟩) hHeld ?_
              · (intro u hu; (try dsimp only at hu); go_split_ands; go_simp)
              (try simp only [Act.put, putA, putB, putC])
              refine L2.late_two 0 8 (by kernel_rfl) rfl rfl (fun K hK => ?t574) (fun K hK => ?t575)
              case' t574 =>
               go_simp
               refine (small1 _).mono ?_
               rintro e w557 ⟨v, rfl, hv9, b557⟩
               have r1 := hv9.rq HS1.out
               obtain ⟨m, d9, rfl, hm, hd9, hap⟩ := id hv9
               obtain ⟨io, il, ic, rfl⟩ := hm.sl
               obtain ⟨iO, iL, iC, rfl⟩ := hd9.sl
               clear hm hd9 hap
               clear hv9
               generalize decide ((1 : Rat).num < 0) = ni at *
               replace krx := krx.below b557
               replace kry := kry.below b557
               have B557 : Below wy9.heap.size wy9 w557 := bstep B0 b557
               clear b557
               replace hHeld := KEEP _ B557
               go_wp2_with fail
               refine hK.out _ _ (L2.AllL.kept hHeld) ?_
               clear hK K
               (try simp only [Act.put, putA, putB, putC])
               refine L2.late_two 3 8 (by kernel_rfl) rfl rfl (fun K hK => ?t568) (fun K hK => ?t569)
               case' t568 =>
                go_simp
                have hq := IH9 krx kry
                refine hq.mono ?_
                rintro e w558 ⟨v, rfl, hv9, b558⟩
                clear hq krx kry
                have r2 := hv9.rq HSS.out
                obtain ⟨m, d9, rfl, hm, hd9, hap⟩ := id hv9
                obtain ⟨jo, jl, jc, rfl⟩ := hm.sl
                obtain ⟨jO, jL, jC, rfl⟩ := hd9.sl
                clear hm hd9 hap
                clear hv9
                generalize decide ((sv).num < 0) = nj at *
                replace r1 := r1.below b558
                have B558 : Below wy9.heap.size wy9 w558 := bstep B557 b558
                clear b558
                replace hHeld := KEEP _ B558
                go_wp2_with fail
                refine hK.out _ _ (L2.AllL.kept hHeld) ?_
                clear hK K
                (try simp only [Act.put, putA, putB, putC])
                refine L2.late_two 4 8 (by kernel_rfl) rfl rfl (fun K hK => ?t563) (fun K hK => ?t564)
                case' t563 =>
                 go_simp
                 have hq := qDiv r1 r2 HNs.out
                 rw [HSV.out.2] at hq
                 refine hq.mono ?_
                 rintro e w559 ⟨v, rfl, hv9, b559⟩
                 clear hq r1 r2
                 have rT := hv9.rq HSZ.out
                 obtain ⟨m, d9, rfl, hm, hd9, hap⟩ := id hv9
                 obtain ⟨ko, kl, kc, rfl⟩ := hm.sl
                 obtain ⟨kO, kL, kC, rfl⟩ := hd9.sl
                 clear hm hd9 hap
                 clear hv9
                 generalize decide ((tv).num < 0) = nk at *
                 have B559 : Below wy9.heap.size wy9 w559 := bstep B558 b559
                 clear b559
                 replace hHeld := KEEP _ B559
                 go_wp2_with fail
                 refine hK.out _ _ (L2.AllL.kept hHeld) ?_
                 clear hK K
                 (try simp only [Act.put, putA, putB, putC])
                 refine L2.late_free 5 (v := .tuple #[.agg #[.bool nk, .slice ko kl kc, .slice kO kL kC], .int .i64 0]) rfl (by kernel_rfl) (by kernel_rfl) (by kernel_rfl) (by kernel_rfl) (by kernel_rfl) (by kernel_rfl) (fun _ _ _ h => h) (Or.inl ⟨by rfl, ?_⟩) hHeld ?_
                 · (intro u _; go_simp)
                 (try simp only [Act.put, putA, putB, putC])
                 refine L2.late_free 6 (v := .agg #[.bool nk, .slice ko kl kc, .slice kO kL kC]) rfl (by kernel_rfl) (by kernel_rfl) (by kernel_rfl) (by kernel_rfl) (by kernel_rfl) (by kernel_rfl) (fun _ _ _ h => h) (Or.inl ⟨by rfl, ?_⟩) hHeld ?_
                 · (intro u _; go_simp)
                 (try simp only [Act.put, putA, putB, putC])
                 refine L2.late_free 7 (v := .int .i64 0) rfl (by kernel_rfl) (by kernel_rfl) (by kernel_rfl) (by kernel_rfl) (by kernel_rfl) (by kernel_rfl) (fun _ _ _ h => h) (Or.inl ⟨by rfl, ?_⟩) hHeld ?_
                 · (intro u _; go_simp)
                 (try simp only [Act.put, putA, putB, putC])
                 refine L2.late_step 8 (by kernel_rfl) rfl (fun K hK => ?_)
                 go_simp
                 obtain ⟨w560, vx, hw, hv, pvx, b560, B560⟩ := new_pr B559
                 rw [hw, hv]
                 clear hw hv
                 replace rT := rT.below b560
                 clear b560
                 replace hHeld := KEEP _ B560
                 refine hK.out _ _ (L2.AllL.kept hHeld) ?_
                 clear hK K
                 (try simp only [Act.put, putA, putB, putC])
                 have Bz := B560
                 obtain ⟨wl, rfl⟩ : ∃ u, u = w560 := ⟨_, rfl⟩
                case' t564 =>
                 go_simp
                 obtain ⟨w561, vx, hw, hv, pvx, b561, B561⟩ := new_pr B558
                 rw [hw, hv]
                 clear hw hv
                 replace r1 := r1.below b561
                 replace r2 := r2.below b561
                 clear b561
                 replace hHeld := KEEP _ B561
                 refine hK.out _ _ (L2.AllL.kept hHeld) ?_
                 clear hK K
                 (try simp only [Act.put, putA, putB, putC])
                 refine L2.late_step 4 (by kernel_rfl) rfl (fun K hK => ?_)
                 go_simp
                 have hq := qDiv r1 r2 HNs.out
                 rw [HSV.out.2] at hq
                 refine hq.mono ?_
                 rintro e w562 ⟨v, rfl, hv9, b562⟩
                 clear hq r1 r2
                 have rT := hv9.rq HSZ.out
                 obtain ⟨m, d9, rfl, hm, hd9, hap⟩ := id hv9
                 obtain ⟨ko, kl, kc, rfl⟩ := hm.sl
                 obtain ⟨kO, kL, kC, rfl⟩ := hd9.sl
                 clear hm hd9 hap
                 clear hv9
                 generalize decide ((tv).num < 0) = nk at *
                 replace pvx := pvx.below b562
                 have B562 : Below wy9.heap.size wy9 w562 := bstep B561 b562
                 clear b562
                 replace hHeld := KEEP _ B562
                 go_wp2_with fail
                 refine hK.out _ _ (L2.AllL.kept hHeld) ?_
                 clear hK K
                 (try simp only [Act.put, putA, putB, putC])
                 refine L2.late_free 5 (v := .tuple #[.agg #[.bool nk, .slice ko kl kc, .slice kO kL kC], .int .i64 0]) rfl (by kernel_rfl) (by kernel_rfl) (by kernel_rfl) (by kernel_rfl) (by kernel_rfl) (by kernel_rfl) (fun _ _ _ h => h) (Or.inl ⟨by rfl, ?_⟩) hHeld ?_
                 · (intro u _; go_simp)
                 (try simp only [Act.put, putA, putB, putC])
                 refine L2.late_free 6 (v := .agg #[.bool nk, .slice ko kl kc, .slice kO kL kC]) rfl (by kernel_rfl) (by kernel_rfl) (by kernel_rfl) (by kernel_rfl) (by kernel_rfl) (by kernel_rfl) (fun _ _ _ h => h) (Or.inl ⟨by rfl, ?_⟩) hHeld ?_
                 · (intro u _; go_simp)
                 (try simp only [Act.put, putA, putB, putC])
                 refine L2.late_free 7 (v := .int .i64 0) rfl (by kernel_rfl) (by kernel_rfl) (by kernel_rfl) (by kernel_rfl) (by kernel_rfl) (by kernel_rfl) (fun _ _ _ h => h) (Or.inl ⟨by rfl, ?_⟩) hHeld ?_
                 · (intro u _; go_simp)
                 (try simp only [Act.put, putA, putB, putC])
                 have Bz := B562
                 obtain ⟨wl, rfl⟩ : ∃ u, u = w562 := ⟨_, rfl⟩
               case' t569 =>
                go_simp
                obtain ⟨w565, vx, hw, hv, pvx, b565, B565⟩ := new_pr B557
                rw [hw, hv]
                clear hw hv
                replace krx := krx.below b565
                replace kry := kry.below b565
                replace r1 := r1.below b565
                clear b565
                replace hHeld := KEEP _ B565
                refine hK.out _ _ (L2.AllL.kept hHeld) ?_
                clear hK K
                (try simp only [Act.put, putA, putB, putC])
                refine L2.late_step 3 (by kernel_rfl) rfl (fun K hK => ?_)
                go_simp
                have hq := IH9 krx kry
                refine hq.mono ?_
                rintro e w566 ⟨v, rfl, hv9, b566⟩
                clear hq krx kry
                have r2 := hv9.rq HSS.out
                obtain ⟨m, d9, rfl, hm, hd9, hap⟩ := id hv9
                obtain ⟨jo, jl, jc, rfl⟩ := hm.sl
                obtain ⟨jO, jL, jC, rfl⟩ := hd9.sl
                clear hm hd9 hap
                clear hv9
                generalize decide ((sv).num < 0) = nj at *
                replace r1 := r1.below b566
                replace pvx := pvx.below b566
                have B566 : Below wy9.heap.size wy9 w566 := bstep B565 b566
                clear b566
                replace hHeld := KEEP _ B566
                go_wp2_with fail
                refine hK.out _ _ (L2.AllL.kept hHeld) ?_
                clear hK K
                (try simp only [Act.put, putA, putB, putC])
                refine L2.late_step 4 (by kernel_rfl) rfl (fun K hK => ?_)
                go_simp
                have hq := qDiv r1 r2 HNs.out
                rw [HSV.out.2] at hq
                refine hq.mono ?_
                rintro e w567 ⟨v, rfl, hv9, b567⟩
                clear hq r1 r2
                have rT := hv9.rq HSZ.out
                obtain ⟨m, d9, rfl, hm, hd9, hap⟩ := id hv9
                obtain ⟨ko, kl, kc, rfl⟩ := hm.sl
                obtain ⟨kO, kL, kC, rfl⟩ := hd9.sl
                clear hm hd9 hap
                clear hv9
                generalize decide ((tv).num < 0) = nk at *
                replace pvx := pvx.below b567
                have B567 : Below wy9.heap.size wy9 w567 := bstep B566 b567
                clear b567
                replace hHeld := KEEP _ B567
                go_wp2_with fail
                refine hK.out _ _ (L2.AllL.kept hHeld) ?_
                clear hK K
                (try simp only [Act.put, putA, putB, putC])
                refine L2.late_free 5 (v := .tuple #[.agg #[.bool nk, .slice ko kl kc, .slice kO kL kC], .int .i64 0]) rfl (by kernel_rfl) (by kernel_rfl) (by kernel_rfl) (by kernel_rfl) (by kernel_rfl) (by kernel_rfl) (fun _ _ _ h => h) (Or.inl ⟨by rfl, ?_⟩) hHeld ?_
                · (intro u _; go_simp)
                (try simp only [Act.put, putA, putB, putC])
                refine L2.late_free 6 (v := .agg #[.bool nk, .slice ko kl kc, .slice kO kL kC]) rfl (by kernel_rfl) (by kernel_rfl) (by kernel_rfl) (by kernel_rfl) (by kernel_rfl) (by kernel_rfl) (fun _ _ _ h => h) (Or.inl ⟨by rfl, ?_⟩) hHeld ?_
                · (intro u _; go_simp)
                (try simp only [Act.put, putA, putB, putC])
                refine L2.late_free 7 (v := .int .i64 0) rfl (by kernel_rfl) (by kernel_rfl) (by kernel_rfl) (by kernel_rfl) (by kernel_rfl) (by kernel_rfl) (fun _ _ _ h => h) (Or.inl ⟨by rfl, ?_⟩) hHeld ?_
                · (intro u _; go_simp)
                (try simp only [Act.put, putA, putB, putC])
                have Bz := B567
                obtain ⟨wl, rfl⟩ : ∃ u, u = w567 := ⟨_, rfl⟩
              case' t575 =>
               go_simp
               obtain ⟨w570, vx, hw, hv, pvx, b570, B570⟩ := new_pr B0
               rw [hw, hv]
               clear hw hv
               replace krx := krx.below b570
               replace kry := kry.below b570
               clear b570
               replace hHeld := KEEP _ B570
               refine hK.out _ _ (L2.AllL.kept hHeld) ?_
               clear hK K
               (try simp only [Act.put, putA, putB, putC])
               refine L2.late_step 0 (by kernel_rfl) rfl (fun K hK => ?_)
               go_simp
               refine (small1 _).mono ?_
               rintro e w571 ⟨v, rfl, hv9, b571⟩
               have r1 := hv9.rq HS1.out
               obtain ⟨m, d9, rfl, hm, hd9, hap⟩ := id hv9
               obtain ⟨io, il, ic, rfl⟩ := hm.sl
               obtain ⟨iO, iL, iC, rfl⟩ := hd9.sl
               clear hm hd9 hap
               clear hv9
               generalize decide ((1 : Rat).num < 0) = ni at *
               replace krx := krx.below b571
               replace kry := kry.below b571
               replace pvx := pvx.below b571
               have B571 : Below wy9.heap.size wy9 w571 := bstep B570 b571
               clear b571
               replace hHeld := KEEP _ B571
               go_wp2_with fail
               refine hK.out _ _ (L2.AllL.kept hHeld) ?_
               clear hK K
               (try simp only [Act.put, putA, putB, putC])
               refine L2.late_step 3 (by kernel_rfl) rfl (fun K hK => ?_)
               go_simp
               have hq := IH9 krx kry
               refine hq.mono ?_
               rintro e w572 ⟨v, rfl, hv9, b572⟩
               clear hq krx kry
               have r2 := hv9.rq HSS.out
               obtain ⟨m, d9, rfl, hm, hd9, hap⟩ := id hv9
               obtain ⟨jo, jl, jc, rfl⟩ := hm.sl
               obtain ⟨jO, jL, jC, rfl⟩ := hd9.sl
               clear hm hd9 hap
               clear hv9
               generalize decide ((sv).num < 0) = nj at *
               replace r1 := r1.below b572
               replace pvx := pvx.below b572
               have B572 : Below wy9.heap.size wy9 w572 := bstep B571 b572
               clear b572
               replace hHeld := KEEP _ B572
               go_wp2_with fail
               refine hK.out _ _ (L2.AllL.kept hHeld) ?_
               clear hK K
               (try simp only [Act.put, putA, putB, putC])
               refine L2.late_step 4 (by kernel_rfl) rfl (fun K hK => ?_)
               go_simp
               have hq := qDiv r1 r2 HNs.out
               rw [HSV.out.2] at hq
               refine hq.mono ?_
               rintro e w573 ⟨v, rfl, hv9, b573⟩
               clear hq r1 r2
               have rT := hv9.rq HSZ.out
               obtain ⟨m, d9, rfl, hm, hd9, hap⟩ := id hv9
               obtain ⟨ko, kl, kc, rfl⟩ := hm.sl
               obtain ⟨kO, kL, kC, rfl⟩ := hd9.sl
               clear hm hd9 hap
               clear hv9
               generalize decide ((tv).num < 0) = nk at *
               replace pvx := pvx.below b573
               have B573 : Below wy9.heap.size wy9 w573 := bstep B572 b573
               clear b573
               replace hHeld := KEEP _ B573
               go_wp2_with fail
               refine hK.out _ _ (L2.AllL.kept hHeld) ?_
               clear hK K
               (try simp only [Act.put, putA, putB, putC])
               refine L2.late_free 5 (v := .tuple #[.agg #[.bool nk, .slice ko kl kc, .slice kO kL kC], .int .i64 0]) rfl (by kernel_rfl) (by kernel_rfl) (by kernel_rfl) (by kernel_rfl) (by kernel_rfl) (by kernel_rfl) (fun _ _ _ h => h) (Or.inl ⟨by rfl, ?_⟩) hHeld ?_
               · (intro u _; go_simp)
               (try simp only [Act.put, putA, putB, putC])
               refine L2.late_free 6 (v := .agg #[.bool nk, .slice ko kl kc, .slice kO kL kC]) rfl (by kernel_rfl) (by kernel_rfl) (by kernel_rfl) (by kernel_rfl) (by kernel_rfl) (by kernel_rfl) (fun _ _ _ h => h) (Or.inl ⟨by rfl, ?_⟩) hHeld ?_
               · (intro u _; go_simp)
               (try simp only [Act.put, putA, putB, putC])
               refine L2.late_free 7 (v := .int .i64 0) rfl (by kernel_rfl) (by kernel_rfl) (by kernel_rfl) (by kernel_rfl) (by kernel_rfl) (by kernel_rfl) (fun _ _ _ h => h) (Or.inl ⟨by rfl, ?_⟩) hHeld ?_
               · (intro u _; go_simp)
               (try simp only [Act.put, putA, putB, putC])
               have Bz := B573
               obtain ⟨wl, rfl⟩ : ∃ u, u = w573 := ⟨_, rfl⟩
              all_goals
                have HPQ : Hid _ := pr_end pvx rT Bz
                obtain ⟨y0, y1, y2⟩ := pvx.c.cells
                have f0 := pvx.c.thaw 0
                have f1 := pvx.c.thaw 1
                have f2 := pvx.c.thaw 2
                clear pvx rT Bz KEEP
                refine L2.late_step 9 (by kernel_rfl) rfl (fun K hK => ?_)
                go_simp
                refine hK.out _ _ ⟨kpt 3, kpt 3, trivial⟩ ?_
                clear hK K
                (try simp only [Act.put, putA, putB, putC])
                refine L2.late_step 10 (by kernel_rfl) rfl (fun K hK => ?_)
                go_simp
                refine hK.out _ _ ⟨kpt 3, kpt 3, trivial⟩ ?_
                clear hK K
                (try simp only [Act.put, putA, putB, putC])
                refine L2.late_done (by kernel_rfl) ?_ _
                clear hHeld y0 y1 y2 f0 f1 f2
                go_wp2_with fail
                go_meet
                exact ⟨_, _, _, _, _, _, _, _, rfl, rfl, HPQ.out⟩
            case rest =>
              obtain ⟨vz, nz, zo, zl, zc, zO, zL, zC, rfl, rfl, qz, rz, b⟩ := hcut
              replace hA := hA.below b
              replace hB := hB.below b
              replace hoN := hoN.below b
              replace rN := rN.below b
              replace rx := rx.below b
              replace ry := ry.below b
              replace qa := qa.below b
              replace qb := qb.below b
              replace qR := qR.below b
              replace qN := qN.below b
              replace qX := qX.below b
              replace qx := qx.below b
              replace qy := qy.below b
              replace hb := bstep hb b
              replace hsz := Nat.lt_of_lt_of_le hsz b.size
              clear b
              obtain ⟨wz9, hw4⟩ : ∃ u, u = wc := ⟨_, rfl⟩
              rw [← hw4] at qa qb qR qN qX qx qy qz hA hB hoN rN rx ry rz hb hsz ⊢
              clear hw4
              obtain ⟨cqa0, cqa1, cqa2⟩ := qa.cells
              obtain ⟨cqb0, cqb1, cqb2⟩ := qb.cells
              obtain ⟨cqR0, cqR1, cqR2⟩ := qR.cells
              obtain ⟨cqN0, cqN1, cqN2⟩ := qN.cells
              obtain ⟨cqX0, cqX1, cqX2⟩ := qX.cells
              obtain ⟨cqx0, cqx1, cqx2⟩ := qx.cells
              obtain ⟨cqy0, cqy1, cqy2⟩ := qy.cells
              obtain ⟨cqz0, cqz1, cqz2⟩ := qz.cells
              go_wp2_with fail
              clear cqa0 cqa1 cqa2 cqb0 cqb1 cqb2 cqR0 cqR1 cqR2 cqN0 cqN1 cqN2 cqX0 cqX1 cqX2 cqx0 cqx1 cqx2 cqy0 cqy1 cqy2 cqz0 cqz1 cqz2
              have hq := qAdd rN rz
              rw [HZ2.out] at hq
              have hszz := hsz
              refine (hq).mono ?_
              rintro e w676 ⟨v, rfl, hv, b⟩
              clear hq
              obtain ⟨m, d, rfl, hm, hd, hap⟩ := hv
              obtain ⟨mo, ml, mc, rfl⟩ := hm.sl
              obtain ⟨mO, mL, mC, rfl⟩ := hd.sl
              replace hA := hA.below b
              replace hB := hB.below b
              replace hoN := hoN.below b
              replace rN := rN.below b
              replace rx := rx.below b
              replace ry := ry.below b
              replace rz := rz.below b
              replace qa := qa.below b
              replace qb := qb.below b
              replace qR := qR.below b
              replace qN := qN.below b
              replace qX := qX.below b
              replace qx := qx.below b
              replace qy := qy.below b
              replace qz := qz.below b
              replace hb := bstep hb b
              replace hsz := Nat.lt_of_lt_of_le hsz b.size
              clear b
              have qq := qR
              have HE : Hid (REnd w Z (.returned (.agg #[.bool (decide (Z.num < 0)), .slice mo ml mc, .slice mO mL mC])) (((w676.setCell ⟨g + 1 + 1, 0, none⟩ (.bool (decide (Z.num < 0)))).setCell ⟨g + 1 + 1, 1, none⟩ (.slice mo ml mc)).setCell ⟨g + 1 + 1, 2, none⟩ (.slice mO mL mC))) := rat_done rfl (by rw [HG.out]; omega) hm hd hap hszz (hb)
              have HW : Hid (QCell (((w676.setCell ⟨g + 1 + 1, 0, none⟩ (.bool (decide (Z.num < 0)))).setCell ⟨g + 1 + 1, 1, none⟩ (.slice mo ml mc)).setCell ⟨g + 1 + 1, 2, none⟩ (.slice mO mL mC)) (g + 1 + 1) (decide (Z.num < 0)) (.slice mo ml mc) (.slice mO mL mC)) := qq.write _ _ _
              obtain ⟨y0, y1, y2⟩ := qq.cells
              have f0 := qq.thaw 0
              have f1 := qq.thaw 1
              have f2 := qq.thaw 2
              generalize decide (Z.num < 0) = bb at *
              clear qq hap
              clear hb hsz hszz hm hd qa qb qR qN qX qx qy qz hA hB hoN rN rx ry rz
              go_wp2_with fail
              (try simp only [Exit.inBlock, Exit.then])
              exact bodyPost_ret (results_cell_row rfl _ _ (g + 1 + 1) 27 _ (0, 0) _ rfl HW.out Tryz.underlying27 rfl (by kernel_rfl)) rfl HE.out
theorem between3 : ∀ (K : Nat), ∀ (w : World) (va vb : Value) (a b : Rat), RQ w va a → RQ w vb b → UpTo a b → a.den + b.den ≤ K → Calls Tryz.prog 43 #[va, vb] w fun e w' => REnd w (sQ a b) e w'
  | 0, _, _, _, a, _, _, _, _, hk => absurd hk (by have := a.den_pos; omega)
  | K + 1, _, _, _, _, _, hA, hB, hu, hk => between3_step K (between3 K) hA hB hu hk
end Go.Proofs.YtfnafgjnimfmjaaGreatDoor
