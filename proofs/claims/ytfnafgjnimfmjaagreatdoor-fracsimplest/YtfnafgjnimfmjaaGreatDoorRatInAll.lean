/-
  Proved here: what wholly and between of the document's layer 3 answer.
  Proved here: what Simplest of the document's layer 3 answers.
  Proved here: plain facts on the simplest fraction from one to another: it lies there, and none there has a lesser number above or below its line.
  Proved here: the walk of FracSimplest.
  Proved here: a slice of limbs that was handed in is a number that can be read.
  Proved here: a fraction that is handed in by value, opened. No condition.
-/
import Derived.Test.YtfnafgjnimfmjaaGreatDoorRBtwMAll
import Derived.Test.YtfnafgjnimfmjaaGreatDoorLate2
import Derived.Deep.DeepCutAuto
import Derived.Test.YtfnafgjnimfmjaaGreatDoorSimpQAll
import Derived.Test.YtfnafgjnimfmjaaGreatDoorSubAll
import Derived.OpenShut
import Derived.ProofKit
import Derived.ShutString
import Derived.ChangeOld
import Derived.Lib.SmallJoins
namespace Go.Proofs.YtfnafgjnimfmjaaGreatDoor
set_option maxRecDepth 100000
set_option maxHeartbeats 12800000
open Go.RowKit
attribute [local go_sem ↓] Go.wp_at_zero Go.wp_at_succ

theorem QCell.noint9 {w : World} {g : Nat} {n : Bool} {o O : Option Addr} {l c L C : Nat} (h : QCell w g n (.slice o l c) (.slice O L C)) : NoInt w g := by
 intro i k z e
 rw [cell_of_row w g _ _ _ _ h] at e
 match i, e with
 | 0, e => cases e
 | 1, e => cases e
 | 2, e => cases e
 | i + 3, e => simp at e
theorem three_other9 (w : World) (g : Nat) (a b c : Value) : ∀ k, k ≠ g → (((w.setCell ⟨g, 0, none⟩ a).setCell ⟨g, 1, none⟩ b).setCell ⟨g, 2, none⟩ c).heap[k]? = w.heap[k]? := by
 intro k hk
 rw [heap_setCell_other _ _ _ _ hk, heap_setCell_other _ _ _ _ hk, heap_setCell_other _ _ _ _ hk]
theorem RQ.box {w w' : World} {v : Value} {a : Rat} {g : Nat} (h : RQ w v a) (hg : NoInt w g) (hw : ∀ b, b ≠ g → w'.heap[b]? = w.heap[b]?) : RQ w' v a := by
 obtain ⟨p, q, ⟨n, ao, al, ac, bo, bl, bc, rfl, ⟨n1, o1, l1, c1, x1, e1, u1, k1, z1⟩, ⟨o2, l2, c2, x2, e2, u2, k2, z2⟩⟩, rfl⟩ := h
 exact ⟨p, q, ⟨n, ao, al, ac, bo, bl, bc, rfl, ⟨n1, o1, l1, c1, x1, e1, u1.box hg hw, k1, z1⟩, ⟨o2, l2, c2, x2, e2, u2.box hg hw, k2, z2⟩⟩, rfl⟩
structure PR (W1 w : World) (v : Nat) : Prop where
 c : QCell w v false (.slice none 0 0) (.slice none 0 0)
 lt : v < w.heap.size
 ge : W1.heap.size ≤ v
theorem PR.below {W1 w w' : World} {v : Nat} (h : PR W1 w v) (hb : Below w.heap.size w w') : PR W1 w' v := ⟨h.c.below hb, Nat.lt_of_lt_of_le h.lt hb.size, h.ge⟩
theorem new_pr {W1 c : World} (B : Below W1.heap.size W1 c) : ∃ wn v, c.alloc (.cells #[.bool false, .slice none 0 0, .slice none 0 0] 27) = wn ∧ c.heap.size = v ∧ PR W1 wn v ∧ Below c.heap.size c wn ∧ Below W1.heap.size W1 wn :=
 ⟨_, _, rfl, rfl, ⟨qcell_new _ rfl, by simp, B.size⟩, belowA _ _, bstep B (belowA _ _)⟩
theorem pr_end {W1 c : World} {vx : Nat} {n : Bool} {o O : Option Addr} {l c' L C : Nat} {a : Rat} (hx : PR W1 c vx) (h : RQ c (.agg #[.bool n, .slice o l c', .slice O L C]) a) (B : Below W1.heap.size W1 c) :
  QCell (((c.setCell ⟨vx, 0, none⟩ (.bool n)).setCell ⟨vx, 1, none⟩ (.slice o l c')).setCell ⟨vx, 2, none⟩ (.slice O L C)) vx n (.slice o l c') (.slice O L C) ∧ RQ (((c.setCell ⟨vx, 0, none⟩ (.bool n)).setCell ⟨vx, 1, none⟩ (.slice o l c')).setCell ⟨vx, 2, none⟩ (.slice O L C)) (.agg #[.bool n, .slice o l c', .slice O L C]) a ∧ Below W1.heap.size W1 (((c.setCell ⟨vx, 0, none⟩ (.bool n)).setCell ⟨vx, 1, none⟩ (.slice o l c')).setCell ⟨vx, 2, none⟩ (.slice O L C)) :=
 ⟨hx.c.write _ _ _, h.box hx.c.noint9 (three_other9 c vx _ _ _), ((B.setCell (p := ⟨vx, 0, none⟩) hx.ge _).setCell (p := ⟨vx, 1, none⟩) hx.ge _).setCell (p := ⟨vx, 2, none⟩) hx.ge _⟩
theorem own_ne_box {B g : Nat} {w : World} {m : Value} {xs : List Nat} {n : Bool} {a b : Value} (ho : Own B 37 w m xs) (hq : QCell w g n a b) : m.ownBlock = none ∨ m.ownBlock ≠ some g := by
 rcases ho.2.2 with ⟨rfl, _⟩ | ⟨g', cap, cur, rfl, _, hh, _⟩
 · exact Or.inl rfl
 ·
  refine Or.inr fun e => ?_
  have hgg : g' = g := Option.some.inj e
  have hq' : w.heap[g]? = some (.cells #[.bool n, a, b] 27 (0, 0)) := hq
  rw [hgg, hq'] at hh
  simp only [Option.some.injEq, Obj.cells.injEq] at hh
  exact absurd hh.2.1 (by decide)
theorem pr_endO {W1 c : World} {vx B : Nat} {n : Bool} {o O : Option Addr} {l c' L C : Nat} {a : Rat} (hx : PR W1 c vx) (h : ROwn B c (.agg #[.bool n, .slice o l c', .slice O L C]) a) (Bz : Below W1.heap.size W1 c) :
  QCell (((c.setCell ⟨vx, 0, none⟩ (.bool n)).setCell ⟨vx, 1, none⟩ (.slice o l c')).setCell ⟨vx, 2, none⟩ (.slice O L C)) vx n (.slice o l c') (.slice O L C) ∧ ROwn B (((c.setCell ⟨vx, 0, none⟩ (.bool n)).setCell ⟨vx, 1, none⟩ (.slice o l c')).setCell ⟨vx, 2, none⟩ (.slice O L C)) (.agg #[.bool n, .slice o l c', .slice O L C]) a ∧ Below W1.heap.size W1 (((c.setCell ⟨vx, 0, none⟩ (.bool n)).setCell ⟨vx, 1, none⟩ (.slice o l c')).setCell ⟨vx, 2, none⟩ (.slice O L C)) := by
 obtain ⟨m, d, e, hm, hd, hap⟩ := h
 have n1 := own_ne_box hm hx.c
 have n2 := own_ne_box hd hx.c
 exact ⟨hx.c.write _ _ _, ⟨m, d, e, ((hm.other _ n1).other _ n1).other _ n1, ((hd.other _ n2).other _ n2).other _ n2, hap⟩, ((Bz.setCell (p := ⟨vx, 0, none⟩) hx.ge _).setCell (p := ⟨vx, 1, none⟩) hx.ge _).setCell (p := ⟨vx, 2, none⟩) hx.ge _⟩
theorem small1 (w : World) : Calls Tryz.prog 29 #[.int .i64 1, .int .i64 1] w fun e w' => REnd w 1 e w' := by
 obtain ⟨W1, hW1⟩ : ∃ W1, W1 = w.alloc (.cells #[.bool false, .slice none 0 0, .slice none 0 0] 27) := ⟨_, rfl⟩
 have qR : QCell W1 (w.heap.size) false (.slice none 0 0) (.slice none 0 0) := by rw [hW1]; exact (qcell_new _ (by simp))
 have hb : Below w.heap.size w W1 := by rw [hW1]; exact belowA w _
 have hsz : w.heap.size < W1.heap.size := by rw [hW1]; simp
 have HW1 : Hid (W1 = w.alloc (.cells #[.bool false, .slice none 0 0, .slice none 0 0] 27)) := hW1
 clear hW1
 go_enter Tryz.func29, Tryz.ntmps29
 go_wp2_with fail
 rw [← HW1.out]
 clear HW1
 obtain ⟨g, hg⟩ : ∃ g, g = w.heap.size := ⟨_, rfl⟩
 rw [← hg] at qR hsz ⊢
 have HG : Hid (g = w.heap.size) := hg
 clear hg
 have hq := of3_yes (n := 1) (d := 1) (w := W1) (by decide) (by decide) (by decide) (by decide) (by decide)
 rw [show Rat.divInt 1 1 = 1 by decide] at hq
 have hszz := hsz
 refine (hq).mono ?_
 rintro e w2 ⟨v, rfl, hv, b⟩
 clear hq
 obtain ⟨m, d, rfl, hm, hd, hap⟩ := hv
 obtain ⟨mo, ml, mc, rfl⟩ := hm.sl
 obtain ⟨mO, mL, mC, rfl⟩ := hd.sl
 generalize hbb : decide ((1 : Rat).num < 0) = bb
 have hown : ROwn (g + 1) w2 (.agg #[.bool bb, .slice mo ml mc, .slice mO mL mC]) 1 := ⟨_, _, by rw [← hbb], hm.mono hszz, hd.mono hszz, hap⟩
 clear hbb hm hd hap hszz
 replace qR := qR.below b
 replace hb := bstep hb b
 replace hsz := Nat.lt_of_lt_of_le hsz b.size
 clear b
 obtain ⟨W3, hW3⟩ : ∃ W, W = w2.alloc (.cells #[.bool bb, .slice mo ml mc, .slice mO mL mC] 27) := ⟨_, rfl⟩
 have qA : QCell W3 (w2.heap.size) bb (.slice mo ml mc) (.slice mO mL mC) := by rw [hW3]; exact (qcell_new _ rfl)
 have b : Below w2.heap.size w2 W3 := by rw [hW3]; exact belowA _ _
 replace hown := hown.below b
 replace qR := qR.below b
 replace hb := bstep hb b
 replace hsz := Nat.lt_of_lt_of_le hsz b.size
 clear b
 have rqR0 : (w2.alloc (.cells #[.bool bb, .slice mo ml mc, .slice mO mL mC] 27)).cell? ⟨g, 0, none⟩ = some (.bool false) := by rw [← hW3]; exact qR.cells.1
 have rqR1 : (w2.alloc (.cells #[.bool bb, .slice mo ml mc, .slice mO mL mC] 27)).cell? ⟨g, 1, none⟩ = some (.slice none 0 0) := by rw [← hW3]; exact qR.cells.2.1
 have rqR2 : (w2.alloc (.cells #[.bool bb, .slice mo ml mc, .slice mO mL mC] 27)).cell? ⟨g, 2, none⟩ = some (.slice none 0 0) := by rw [← hW3]; exact qR.cells.2.2
 have rqA0 : (w2.alloc (.cells #[.bool bb, .slice mo ml mc, .slice mO mL mC] 27)).cell? ⟨w2.heap.size, 0, none⟩ = some (.bool bb) := by rw [← hW3]; exact qA.cells.1
 have rqA1 : (w2.alloc (.cells #[.bool bb, .slice mo ml mc, .slice mO mL mC] 27)).cell? ⟨w2.heap.size, 1, none⟩ = some (.slice mo ml mc) := by rw [← hW3]; exact qA.cells.2.1
 have rqA2 : (w2.alloc (.cells #[.bool bb, .slice mo ml mc, .slice mO mL mC] 27)).cell? ⟨w2.heap.size, 2, none⟩ = some (.slice mO mL mC) := by rw [← hW3]; exact qA.cells.2.2
 obtain ⟨v3, hv3⟩ : ∃ v, v = w2.heap.size := ⟨_, rfl⟩
 rw [← hv3] at qA
 have HW3 : Hid (W3 = w2.alloc (.cells #[.bool bb, .slice mo ml mc, .slice mO mL mC] 27)) := hW3
 have Hv3 : Hid (v3 = w2.heap.size) := hv3
 clear hW3 hv3
 obtain ⟨m, d, he, hm, hd, hap⟩ := hown
 simp only [Value.agg.injEq, Array.mk.injEq, List.cons.injEq, Value.bool.injEq, and_true] at he
 obtain ⟨hbb, rfl, rfl⟩ := he
 have HE : Hid (REnd w 1 (.returned (.agg #[.bool bb, .slice mo ml mc, .slice mO mL mC])) (((W3.setCell ⟨g, 0, none⟩ (.bool bb)).setCell ⟨g, 1, none⟩ (.slice mo ml mc)).setCell ⟨g, 2, none⟩ (.slice mO mL mC))) := rat_done hbb (by rw [HG.out]; exact Nat.le_refl _) hm hd hap (Nat.lt_succ_self g) hb
 have HW : Hid (QCell (((W3.setCell ⟨g, 0, none⟩ (.bool bb)).setCell ⟨g, 1, none⟩ (.slice mo ml mc)).setCell ⟨g, 2, none⟩ (.slice mO mL mC)) g bb (.slice mo ml mc) (.slice mO mL mC)) := qR.write _ _ _
 have f0 := qR.thaw 0
 have f1 := qR.thaw 1
 have f2 := qR.thaw 2
 rw [HW3.out] at f0 f1 f2
 clear hbb hm hd hap hb hsz qR qA
 go_wp2_with fail
 rw [← HW3.out, ← Hv3.out]
 clear HW3 Hv3 rqR0 rqR1 rqR2 rqA0 rqA1 rqA2
 (try simp only [Exit.inBlock, Exit.then])
 exact bodyPost_ret (results_cell_row rfl _ _ (g) 27 _ (0, 0) _ rfl HW.out Tryz.underlying27 rfl (by kernel_rfl)) rfl HE.out
theorem wholly3 {v : Value} {z : Int} {w : World} (h : IB w v z 40) : Calls Tryz.prog 26 #[v] w fun e w' => REnd w (Rat.divInt z 1) e w' := by
 obtain ⟨nn, no, nl, nc, xn, rfl, un, ln, en⟩ := h
 have ib : IB w (.agg #[.bool nn, .slice no nl nc]) z 40 := ⟨_, _, _, _, _, rfl, un, ln, en⟩
 clear un ln en
 obtain ⟨Z, hZ⟩ : ∃ Z, Z = Rat.divInt z 1 := ⟨_, rfl⟩
 rw [← hZ]
 have HZ : Hid (Rat.divInt z 1 = Z) := hZ.symm
 clear hZ
 obtain ⟨W1, hW1⟩ : ∃ W1, W1 = (w.alloc (.cells #[.bool nn, .slice no nl nc] 25)).alloc (.cells #[.bool false, .slice none 0 0, .slice none 0 0] 27) := ⟨_, rfl⟩
 have qn : ICell W1 (w.heap.size) nn (.slice no nl nc) := by rw [hW1]; exact (icell_step (icell_new _ (by simp)))
 have qR : QCell W1 (w.heap.size + 1) false (.slice none 0 0) (.slice none 0 0) := by rw [hW1]; exact (qcell_new _ (by simp))
 have hb : Below w.heap.size w W1 := by rw [hW1]; exact bstep (belowA w _) (belowA _ _)
 have hsz : w.heap.size + 1 < W1.heap.size := by rw [hW1]; simp
 replace ib := ib.below hb
 have HW1 : Hid (W1 = (w.alloc (.cells #[.bool nn, .slice no nl nc] 25)).alloc (.cells #[.bool false, .slice none 0 0, .slice none 0 0] 27)) := hW1
 clear hW1
 go_enter Tryz.func26, Tryz.ntmps26
 go_wp2_with fail
 rw [← HW1.out]
 clear HW1
 obtain ⟨g, hg⟩ : ∃ g, g = w.heap.size := ⟨_, rfl⟩
 rw [← hg] at qn qR hsz ⊢
 have HG : Hid (g = w.heap.size) := hg
 clear hg
 obtain ⟨cqn0, cqn1⟩ := qn.cells
 obtain ⟨cqR0, cqR1, cqR2⟩ := qR.cells
 go_wp2_with fail
 clear cqn0 cqn1 cqR0 cqR1 cqR2
 have KEEP : ∀ u, Below W1.heap.size W1 u → AllL u [(0, fun w' => w'.cell? ⟨g, 0, none⟩ = some (.bool nn) ∧ w'.cell? ⟨g, 1, none⟩ = some (.slice no nl nc))] := fun u B => ⟨(qn.below B).cells, trivial⟩
 refine region_late [(0, fun w' => w'.cell? ⟨g, 0, none⟩ = some (.bool nn) ∧ w'.cell? ⟨g, 1, none⟩ = some (.slice no nl nc))] (by kernel_rfl) ?_
 have BZ : Below W1.heap.size W1 W1.drew := below_drew' _
 obtain ⟨wz, hwz⟩ : ∃ u, u = W1.drew := ⟨_, rfl⟩
 rw [← hwz] at BZ ⊢
 clear hwz
 have hHeld := KEEP _ BZ
 have kib := ib.below BZ
 refine late_tk 0 (v := .agg #[.bool nn, .slice no nl nc]) rfl (List.Mem.head _) (Or.inl ⟨by rfl, ?_⟩) hHeld ?_
 · (intro u hu; (try dsimp only at hu); go_split_ands; go_simp)
 try simp only [pu1, pu2, pu3, pu4]
 refine late_st 1 rfl (fun K hK => ?_)
 go_simp
 refine (one3 _).mono ?_
 rintro e w2 ⟨oo, ol, oc, rfl, nb, b2⟩
 replace kib := kib.below b2
 have B2 : Below W1.heap.size W1 w2 := bstep BZ b2
 clear BZ b2
 replace hHeld := KEEP _ B2
 go_wp2_with fail
 refine hK.out _ _ (AllL.kept hHeld) ?_
 clear hK K
 try simp only [pu1, pu2, pu3, pu4]
 have hq := lowB kib nb (by decide) (by decide) (by decide)
 rw [HZ.out] at hq
 have hbase := Nat.lt_of_lt_of_le hsz B2.size
 refine late_st 2 rfl (fun K hK => ?_)
 go_simp
 refine (hq).mono ?_
 rintro e w3 ⟨v, rfl, hv, b3⟩
 clear hq kib nb
 obtain ⟨m, d, rfl, hm, hd, hap⟩ := hv
 obtain ⟨mo, ml, mc, rfl⟩ := hm.sl
 obtain ⟨mO, mL, mC, rfl⟩ := hd.sl
 have B3 : Below W1.heap.size W1 w3 := bstep B2 b3
 clear B2 b3
 replace hHeld := KEEP _ B3
 go_wp2_with fail
 refine hK.out _ _ (AllL.kept hHeld) ?_
 clear hK K
 try simp only [pu1, pu2, pu3, pu4]
 have qq := qR.below B3
 have HE : Hid (REnd w Z (.returned (.agg #[.bool (decide (Z.num < 0)), .slice mo ml mc, .slice mO mL mC])) (((w3.setCell ⟨g + 1, 0, none⟩ (.bool (decide (Z.num < 0)))).setCell ⟨g + 1, 1, none⟩ (.slice mo ml mc)).setCell ⟨g + 1, 2, none⟩ (.slice mO mL mC))) := rat_done rfl (by rw [HG.out]; omega) hm hd hap hbase (bstep hb B3)
 have HW : Hid (QCell (((w3.setCell ⟨g + 1, 0, none⟩ (.bool (decide (Z.num < 0)))).setCell ⟨g + 1, 1, none⟩ (.slice mo ml mc)).setCell ⟨g + 1, 2, none⟩ (.slice mO mL mC)) (g + 1) (decide (Z.num < 0)) (.slice mo ml mc) (.slice mO mL mC)) := qq.write _ _ _
 obtain ⟨y0, y1, y2⟩ := qq.cells
 have f0 := qq.thaw 0
 have f1 := qq.thaw 1
 have f2 := qq.thaw 2
 generalize decide (Z.num < 0) = bb at *
 clear qq hm hd hap KEEP
 refine late_st 3 rfl (fun K hK => ?_)
 go_simp
 refine hK.out _ _ ⟨kpt 2, trivial⟩ ?_
 clear hK K
 try simp only [pu1, pu2, pu3, pu4]
 refine late_done (by kernel_rfl) ?_ _
 clear hHeld hb hsz hbase B3 qn qR ib y0 y1 y2 f0 f1 f2
 go_wp2_with fail
 (try simp only [Exit.inBlock, Exit.then])
 exact bodyPost_ret (results_cell_row rfl _ _ (g + 1) 27 _ (0, 0) _ rfl HW.out Tryz.underlying27 rfl (by kernel_rfl)) rfl HE.out
theorem RSz.one9 : RSz (1 : Rat) 40 := ⟨Sz.one.mono (by decide), Sz.one.mono (by decide)⟩
theorem between3_step (K : Nat) (IH : Hid (∀ (w : World) (va vb : Value) (a b : Rat), RQ w va a → RQ w vb b → UpTo a b → a.den + b.den ≤ K → Calls Tryz.prog 43 #[va, vb] w fun e w' => REnd w (sQ a b) e w')) {w : World} {va vb : Value} {a b : Rat} (hA : RQ w va a) (hB : RQ w vb b) (hu : UpTo a b) (hk : a.den + b.den ≤ K + 1) : Calls Tryz.prog 43 #[va, vb] w fun e w' => REnd w (sQ a b) e w' := by
 obtain ⟨na, ao, al, ac, aO, aL, aC, rfl⟩ := hA.see
 obtain ⟨nb, bo, bl, bc, bO, bL, bC, rfl⟩ := hB.see
 have HSA : Hid (RSz a 40) := hA.sz
 have HSB : Hid (RSz b 40) := hB.sz
 have HU : Hid (UpTo a b) := hu
 have HN : Hid (Sz (nF a : Int) 40) := sz_le_nat (Nat.div_le_self _ _) (sz_abs hA.sz.num)
 obtain ⟨Z, hZ⟩ : ∃ Z, Z = sQ a b := ⟨_, rfl⟩
 rw [← hZ]
 have HZ : Hid (Z = sQ a b) := hZ
 have HK9 : Hid (a.den + b.den ≤ K + 1) := hk
 clear hZ hu hk
 obtain ⟨W1, hW1⟩ : ∃ W1, W1 = ((w.alloc (.cells #[.bool na, .slice ao al ac, .slice aO aL aC] 27)).alloc (.cells #[.bool nb, .slice bo bl bc, .slice bO bL bC] 27)).alloc (.cells #[.bool false, .slice none 0 0, .slice none 0 0] 27) := ⟨_, rfl⟩
 have qa : QCell W1 (w.heap.size) na (.slice ao al ac) (.slice aO aL aC) := by rw [hW1]; exact (qcell_step (qcell_step (qcell_new _ (by simp))))
 have qb : QCell W1 (w.heap.size + 1) nb (.slice bo bl bc) (.slice bO bL bC) := by rw [hW1]; exact (qcell_step (qcell_new _ (by simp)))
 have qR : QCell W1 (w.heap.size + 1 + 1) false (.slice none 0 0) (.slice none 0 0) := by rw [hW1]; exact (qcell_new _ (by simp))
 have hb : Below w.heap.size w W1 := by rw [hW1]; exact bstep (bstep (belowA w _) (belowA _ _)) (belowA _ _)
 have hsz : w.heap.size + 1 + 1 < W1.heap.size := by rw [hW1]; simp
 replace hA := hA.below hb
 replace hB := hB.below hb
 have HW1 : Hid (W1 = ((w.alloc (.cells #[.bool na, .slice ao al ac, .slice aO aL aC] 27)).alloc (.cells #[.bool nb, .slice bo bl bc, .slice bO bL bC] 27)).alloc (.cells #[.bool false, .slice none 0 0, .slice none 0 0] 27)) := hW1
 clear hW1
 go_enter Tryz.func43, Tryz.ntmps43
 go_wp2_with fail
 rw [← HW1.out]
 clear HW1
 obtain ⟨g, hg⟩ : ∃ g, g = w.heap.size := ⟨_, rfl⟩
 rw [← hg] at qa qb qR hsz ⊢
 have HG : Hid (g = w.heap.size) := hg
 clear hg
 obtain ⟨cqa0, cqa1, cqa2⟩ := qa.cells
 obtain ⟨cqb0, cqb1, cqb2⟩ := qb.cells
 obtain ⟨cqR0, cqR1, cqR2⟩ := qR.cells
 go_wp2_with fail
 clear cqa0 cqa1 cqa2 cqb0 cqb1 cqb2 cqR0 cqR1 cqR2
 have hq := qFloor hA
 rw [flo_nF HU.out.pos] at hq
 refine (hq).mono ?_
 rintro e w2 ⟨v, rfl, ho, b⟩
 clear hq
 have ib := ho.ib HN.out.len
 clear ho
 obtain ⟨zn, zo, zl, zc, zx, rfl, z1, z2, z3⟩ := id ib
 clear z1 z2 z3 zx
 replace hA := hA.below b
 replace hB := hB.below b
 replace qa := qa.below b
 replace qb := qb.below b
 replace qR := qR.below b
 replace hb := bstep hb b
 replace hsz := Nat.lt_of_lt_of_le hsz b.size
 clear b
 obtain ⟨cqa0, cqa1, cqa2⟩ := qa.cells
 obtain ⟨cqb0, cqb1, cqb2⟩ := qb.cells
 obtain ⟨cqR0, cqR1, cqR2⟩ := qR.cells
 go_wp2_with fail
 clear cqa0 cqa1 cqa2 cqb0 cqb1 cqb2 cqR0 cqR1 cqR2
 have hq : Calls Tryz.prog 26 #[.agg #[.bool zn, .slice zo zl zc]] w2 fun e w' => REnd w2 (NF a) e w' := wholly3 ib
 have hszz := hsz
 refine (hq).mono ?_
 rintro e w3 ⟨v, rfl, hv9, b⟩
 clear hq
 have hoN := hv9.rehome (B' := g + 1 + 1 + 1) hszz
 clear hszz
 obtain ⟨m, d9, rfl, hm, hd9, hap⟩ := id hv9
 obtain ⟨No, Nl, Nc, rfl⟩ := hm.sl
 obtain ⟨NO, NL, NC, rfl⟩ := hd9.sl
 clear hm hd9 hap
 clear hv9
 generalize decide ((NF a).num < 0) = nN at *
 replace hA := hA.below b
 replace hB := hB.below b
 replace ib := ib.below b
 replace qa := qa.below b
 replace qb := qb.below b
 replace qR := qR.below b
 replace hb := bstep hb b
 replace hsz := Nat.lt_of_lt_of_le hsz b.size
 clear b
 clear ib
 obtain ⟨W4, hW4⟩ : ∃ W, W = w3.alloc (.cells #[.bool nN, .slice No Nl Nc, .slice NO NL NC] 27) := ⟨_, rfl⟩
 have qN : QCell W4 (w3.heap.size) nN (.slice No Nl Nc) (.slice NO NL NC) := by rw [hW4]; exact (qcell_new _ rfl)
 have b : Below w3.heap.size w3 W4 := by rw [hW4]; exact belowA _ _
 replace hA := hA.below b
 replace hB := hB.below b
 replace hoN := hoN.below b
 replace qa := qa.below b
 replace qb := qb.below b
 replace qR := qR.below b
 replace hb := bstep hb b
 replace hsz := Nat.lt_of_lt_of_le hsz b.size
 clear b
 have rqa0 : (w3.alloc (.cells #[.bool nN, .slice No Nl Nc, .slice NO NL NC] 27)).cell? ⟨g, 0, none⟩ = some (.bool na) := by rw [← hW4]; exact qa.cells.1
 have rqa1 : (w3.alloc (.cells #[.bool nN, .slice No Nl Nc, .slice NO NL NC] 27)).cell? ⟨g, 1, none⟩ = some (.slice ao al ac) := by rw [← hW4]; exact qa.cells.2.1
 have rqa2 : (w3.alloc (.cells #[.bool nN, .slice No Nl Nc, .slice NO NL NC] 27)).cell? ⟨g, 2, none⟩ = some (.slice aO aL aC) := by rw [← hW4]; exact qa.cells.2.2
 have rqb0 : (w3.alloc (.cells #[.bool nN, .slice No Nl Nc, .slice NO NL NC] 27)).cell? ⟨g + 1, 0, none⟩ = some (.bool nb) := by rw [← hW4]; exact qb.cells.1
 have rqb1 : (w3.alloc (.cells #[.bool nN, .slice No Nl Nc, .slice NO NL NC] 27)).cell? ⟨g + 1, 1, none⟩ = some (.slice bo bl bc) := by rw [← hW4]; exact qb.cells.2.1
 have rqb2 : (w3.alloc (.cells #[.bool nN, .slice No Nl Nc, .slice NO NL NC] 27)).cell? ⟨g + 1, 2, none⟩ = some (.slice bO bL bC) := by rw [← hW4]; exact qb.cells.2.2
 have rqR0 : (w3.alloc (.cells #[.bool nN, .slice No Nl Nc, .slice NO NL NC] 27)).cell? ⟨g + 1 + 1, 0, none⟩ = some (.bool false) := by rw [← hW4]; exact qR.cells.1
 have rqR1 : (w3.alloc (.cells #[.bool nN, .slice No Nl Nc, .slice NO NL NC] 27)).cell? ⟨g + 1 + 1, 1, none⟩ = some (.slice none 0 0) := by rw [← hW4]; exact qR.cells.2.1
 have rqR2 : (w3.alloc (.cells #[.bool nN, .slice No Nl Nc, .slice NO NL NC] 27)).cell? ⟨g + 1 + 1, 2, none⟩ = some (.slice none 0 0) := by rw [← hW4]; exact qR.cells.2.2
 have rqN0 : (w3.alloc (.cells #[.bool nN, .slice No Nl Nc, .slice NO NL NC] 27)).cell? ⟨w3.heap.size, 0, none⟩ = some (.bool nN) := by rw [← hW4]; exact qN.cells.1
 have rqN1 : (w3.alloc (.cells #[.bool nN, .slice No Nl Nc, .slice NO NL NC] 27)).cell? ⟨w3.heap.size, 1, none⟩ = some (.slice No Nl Nc) := by rw [← hW4]; exact qN.cells.2.1
 have rqN2 : (w3.alloc (.cells #[.bool nN, .slice No Nl Nc, .slice NO NL NC] 27)).cell? ⟨w3.heap.size, 2, none⟩ = some (.slice NO NL NC) := by rw [← hW4]; exact qN.cells.2.2
 obtain ⟨v4, hv4⟩ : ∃ v, v = w3.heap.size := ⟨_, rfl⟩
 rw [← hv4] at qN
 have HW4 : Hid (W4 = w3.alloc (.cells #[.bool nN, .slice No Nl Nc, .slice NO NL NC] 27)) := hW4
 have Hv4 : Hid (v4 = w3.heap.size) := hv4
 clear hW4 hv4
 go_wp2_with fail
 rw [← HW4.out, ← Hv4.out]
 clear HW4 Hv4 rqa0 rqa1 rqa2 rqb0 rqb1 rqb2 rqR0 rqR1 rqR2 rqN0 rqN1 rqN2
 have rN := hoN.rq HSA.out.NF'
 by_cases h0 : a.num.natAbs % a.den = 0
 ·
  have hq := qCmp hA rN
  rw [(cmp_NF HU.out.pos).2 h0] at hq
  refine (hq).mono ?_
  rintro e w105 ⟨rfl, b⟩
  clear hq
  replace hA := hA.below b
  replace hB := hB.below b
  replace hoN := hoN.below b
  replace rN := rN.below b
  replace qa := qa.below b
  replace qb := qb.below b
  replace qR := qR.below b
  replace qN := qN.below b
  replace hb := bstep hb b
  replace hsz := Nat.lt_of_lt_of_le hsz b.size
  clear b
  have hz9 : Z = _ := HZ.out.trans (sQ_int9 h0)
  rw [← hz9] at hoN
  obtain ⟨m, d, he, hm, hd, hap⟩ := hoN
  simp only [Value.agg.injEq, Array.mk.injEq, List.cons.injEq, Value.bool.injEq, and_true] at he
  obtain ⟨hbb, rfl, rfl⟩ := he
  have HE : Hid (REnd w Z (.returned (.agg #[.bool nN, .slice No Nl Nc, .slice NO NL NC])) (((w105.setCell ⟨g + 1 + 1, 0, none⟩ (.bool nN)).setCell ⟨g + 1 + 1, 1, none⟩ (.slice No Nl Nc)).setCell ⟨g + 1 + 1, 2, none⟩ (.slice NO NL NC))) := rat_done hbb (by rw [HG.out]; omega) hm hd hap (Nat.lt_succ_self _) hb
  have HW : Hid (QCell (((w105.setCell ⟨g + 1 + 1, 0, none⟩ (.bool nN)).setCell ⟨g + 1 + 1, 1, none⟩ (.slice No Nl Nc)).setCell ⟨g + 1 + 1, 2, none⟩ (.slice NO NL NC)) (g + 1 + 1) nN (.slice No Nl Nc) (.slice NO NL NC)) := qR.write _ _ _
  obtain ⟨y0, y1, y2⟩ := qR.cells
  have f0 := qR.thaw 0
  have f1 := qR.thaw 1
  have f2 := qR.thaw 2
  obtain ⟨c0, c1, c2⟩ := qN.cells
  clear hz9 hbb hm hd hap hb hsz qa qb qR qN hA hB rN
  go_wp2_with fail
  (try simp only [Exit.inBlock, Exit.then])
  exact bodyPost_ret (results_cell_row rfl _ _ (g + 1 + 1) 27 _ (0, 0) _ rfl HW.out Tryz.underlying27 rfl (by kernel_rfl)) rfl HE.out
 ·
  have hq := qCmp hA rN
  obtain ⟨c, hc⟩ : ∃ c, c = cmpQ a (NF a) := ⟨_, rfl⟩
  have hc0 : ¬ c = 0 := by rw [hc]; exact fun e => h0 ((cmp_NF HU.out.pos).1 e)
  rw [← hc] at hq
  clear hc
  refine (hq).mono ?_
  rintro e w105 ⟨rfl, b⟩
  clear hq
  replace hA := hA.below b
  replace hB := hB.below b
  replace hoN := hoN.below b
  replace rN := rN.below b
  replace qa := qa.below b
  replace qb := qb.below b
  replace qR := qR.below b
  replace qN := qN.below b
  replace hb := bstep hb b
  replace hsz := Nat.lt_of_lt_of_le hsz b.size
  clear b
  obtain ⟨cqa0, cqa1, cqa2⟩ := qa.cells
  obtain ⟨cqb0, cqb1, cqb2⟩ := qb.cells
  obtain ⟨cqR0, cqR1, cqR2⟩ := qR.cells
  obtain ⟨cqN0, cqN1, cqN2⟩ := qN.cells
  go_wp2_with fail
  clear cqa0 cqa1 cqa2 cqb0 cqb1 cqb2 cqR0 cqR1 cqR2 cqN0 cqN1 cqN2
  have HS1 : Hid (RSz (1 : Rat) 40) := RSz.one9
  go_cut [6] (fun t6 wx => ∃ v n o l c O L C, t6 = .pointer (some ⟨v, 0, none⟩) ∧ QCell wx v n (.slice o l c) (.slice O L C) ∧ ROwn (g + 1 + 1 + 1) wx (.agg #[.bool n, .slice o l c, .slice O L C]) (NF a + 1) ∧ Below w105.heap.size w105 wx)
  case first =>
   have KEEP : ∀ u, Below w105.heap.size w105 u → L2.AllL u [(0, fun w' => w'.cell? ⟨v4, 0, none⟩ = some (.bool nN) ∧ w'.cell? ⟨v4, 1, none⟩ = some (.slice No Nl Nc) ∧ w'.cell? ⟨v4, 2, none⟩ = some (.slice NO NL NC))] := fun u B => ⟨(qN.below B).cells, trivial⟩
   refine L2.region_late [(0, fun w' => w'.cell? ⟨v4, 0, none⟩ = some (.bool nN) ∧ w'.cell? ⟨v4, 1, none⟩ = some (.slice No Nl Nc) ∧ w'.cell? ⟨v4, 2, none⟩ = some (.slice NO NL NC))] (by kernel_rfl) ?_
   have B0 : Below w105.heap.size w105 w105.drew := below_drew' _
   obtain ⟨w0, hw0⟩ : ∃ u, u = w105.drew := ⟨_, rfl⟩
   rw [← hw0] at B0 ⊢
   clear hw0
   have hHeld := KEEP _ B0
   have krN := rN.below B0
   refine L2.late_tk 0 (v := .agg #[.bool nN, .slice No Nl Nc, .slice NO NL NC]) rfl (List.Mem.head _) (Or.inl ⟨by rfl, ?_⟩) hHeld ?_
   · (intro u hu; (try dsimp only at hu); go_split_ands; go_simp)
   try simp only [pu1, pu2, pu3, pu4]
   refine L2.late_two 1 3 (by kernel_rfl) rfl rfl (fun K hK => ?t116) (fun K hK => ?t117)
   case' t116 =>
    go_simp
    refine (small1 _).mono ?_
    rintro e w106 ⟨v, rfl, hv9, b106⟩
    have r1 := hv9.rq HS1.out
    obtain ⟨m, d9, rfl, hm, hd9, hap⟩ := id hv9
    obtain ⟨io, il, ic, rfl⟩ := hm.sl
    obtain ⟨iO, iL, iC, rfl⟩ := hd9.sl
    clear hm hd9 hap
    clear hv9
    generalize decide ((1 : Rat).num < 0) = ni at *
    replace krN := krN.below b106
    have B106 : Below w105.heap.size w105 w106 := bstep B0 b106
    clear b106
    replace hHeld := KEEP _ B106
    go_wp2_with fail
    refine hK.out _ _ (L2.AllL.kept hHeld) ?_
    clear hK K
    try simp only [pu1, pu2, pu3, pu4]
    refine L2.late_two 2 3 (by kernel_rfl) rfl rfl (fun K hK => ?t111) (fun K hK => ?t112)
    case' t111 =>
     go_simp
     have hq := qAdd krN r1
     have hle : g + 1 + 1 < _ := Nat.lt_of_lt_of_le hsz B106.size
     refine hq.mono ?_
     rintro e w107 ⟨v, rfl, hv9, b107⟩
     clear hq krN r1
     have rT := hv9.rehome (B' := g + 1 + 1 + 1) hle
     clear hle
     obtain ⟨m, d9, rfl, hm, hd9, hap⟩ := id hv9
     obtain ⟨Xo, Xl, Xc, rfl⟩ := hm.sl
     obtain ⟨XO, XL, XC, rfl⟩ := hd9.sl
     clear hm hd9 hap
     clear hv9
     generalize decide ((NF a + 1).num < 0) = nX at *
     have B107 : Below w105.heap.size w105 w107 := bstep B106 b107
     clear b107
     replace hHeld := KEEP _ B107
     go_wp2_with fail
     refine hK.out _ _ (L2.AllL.kept hHeld) ?_
     clear hK K
     try simp only [pu1, pu2, pu3, pu4]
     refine L2.late_st 3 rfl (fun K hK => ?_)
     go_simp
     obtain ⟨w108, vx, hw, hv, pvx, b108, B108⟩ := new_pr B107
     rw [hw, hv]
     clear hw hv
     replace rT := rT.below b108
     clear b108
     replace hHeld := KEEP _ B108
     refine hK.out _ _ (L2.AllL.kept hHeld) ?_
     clear hK K
     try simp only [pu1, pu2, pu3, pu4]
     have Bz := B108
     obtain ⟨wl, rfl⟩ : ∃ u, u = w108 := ⟨_, rfl⟩
    case' t112 =>
     go_simp
     obtain ⟨w109, vx, hw, hv, pvx, b109, B109⟩ := new_pr B106
     rw [hw, hv]
     clear hw hv
     replace krN := krN.below b109
     replace r1 := r1.below b109
     clear b109
     replace hHeld := KEEP _ B109
     refine hK.out _ _ (L2.AllL.kept hHeld) ?_
     clear hK K
     try simp only [pu1, pu2, pu3, pu4]
     refine L2.late_st 2 rfl (fun K hK => ?_)
     go_simp
     have hq := qAdd krN r1
     have hle : g + 1 + 1 < _ := Nat.lt_of_lt_of_le hsz B109.size
     refine hq.mono ?_
     rintro e w110 ⟨v, rfl, hv9, b110⟩
     clear hq krN r1
     have rT := hv9.rehome (B' := g + 1 + 1 + 1) hle
     clear hle
     obtain ⟨m, d9, rfl, hm, hd9, hap⟩ := id hv9
     obtain ⟨Xo, Xl, Xc, rfl⟩ := hm.sl
     obtain ⟨XO, XL, XC, rfl⟩ := hd9.sl
     clear hm hd9 hap
     clear hv9
     generalize decide ((NF a + 1).num < 0) = nX at *
     replace pvx := pvx.below b110
     have B110 : Below w105.heap.size w105 w110 := bstep B109 b110
     clear b110
     replace hHeld := KEEP _ B110
     go_wp2_with fail
     refine hK.out _ _ (L2.AllL.kept hHeld) ?_
     clear hK K
     try simp only [pu1, pu2, pu3, pu4]
     have Bz := B110
     obtain ⟨wl, rfl⟩ : ∃ u, u = w110 := ⟨_, rfl⟩
   case' t117 =>
    go_simp
    obtain ⟨w113, vx, hw, hv, pvx, b113, B113⟩ := new_pr B0
    rw [hw, hv]
    clear hw hv
    replace krN := krN.below b113
    clear b113
    replace hHeld := KEEP _ B113
    refine hK.out _ _ (L2.AllL.kept hHeld) ?_
    clear hK K
    try simp only [pu1, pu2, pu3, pu4]
    refine L2.late_st 1 rfl (fun K hK => ?_)
    go_simp
    refine (small1 _).mono ?_
    rintro e w114 ⟨v, rfl, hv9, b114⟩
    have r1 := hv9.rq HS1.out
    obtain ⟨m, d9, rfl, hm, hd9, hap⟩ := id hv9
    obtain ⟨io, il, ic, rfl⟩ := hm.sl
    obtain ⟨iO, iL, iC, rfl⟩ := hd9.sl
    clear hm hd9 hap
    clear hv9
    generalize decide ((1 : Rat).num < 0) = ni at *
    replace krN := krN.below b114
    replace pvx := pvx.below b114
    have B114 : Below w105.heap.size w105 w114 := bstep B113 b114
    clear b114
    replace hHeld := KEEP _ B114
    go_wp2_with fail
    refine hK.out _ _ (L2.AllL.kept hHeld) ?_
    clear hK K
    try simp only [pu1, pu2, pu3, pu4]
    refine L2.late_st 2 rfl (fun K hK => ?_)
    go_simp
    have hq := qAdd krN r1
    have hle : g + 1 + 1 < _ := Nat.lt_of_lt_of_le hsz B114.size
    refine hq.mono ?_
    rintro e w115 ⟨v, rfl, hv9, b115⟩
    clear hq krN r1
    have rT := hv9.rehome (B' := g + 1 + 1 + 1) hle
    clear hle
    obtain ⟨m, d9, rfl, hm, hd9, hap⟩ := id hv9
    obtain ⟨Xo, Xl, Xc, rfl⟩ := hm.sl
    obtain ⟨XO, XL, XC, rfl⟩ := hd9.sl
    clear hm hd9 hap
    clear hv9
    generalize decide ((NF a + 1).num < 0) = nX at *
    replace pvx := pvx.below b115
    have B115 : Below w105.heap.size w105 w115 := bstep B114 b115
    clear b115
    replace hHeld := KEEP _ B115
    go_wp2_with fail
    refine hK.out _ _ (L2.AllL.kept hHeld) ?_
    clear hK K
    try simp only [pu1, pu2, pu3, pu4]
    have Bz := B115
    obtain ⟨wl, rfl⟩ : ∃ u, u = w115 := ⟨_, rfl⟩
   all_goals
     have HPQ : Hid _ := pr_endO pvx rT Bz
     obtain ⟨y0, y1, y2⟩ := pvx.c.cells
     have f0 := pvx.c.thaw 0
     have f1 := pvx.c.thaw 1
     have f2 := pvx.c.thaw 2
     clear pvx rT Bz KEEP
     refine L2.late_st 4 rfl (fun K hK => ?_)
     go_simp
     refine hK.out _ _ ⟨kpt 2, trivial⟩ ?_
     clear hK K
     try simp only [pu1, pu2, pu3, pu4]
     refine L2.late_done (by kernel_rfl) ?_ _
     clear hHeld y0 y1 y2 f0 f1 f2
     go_wp2_with fail
     go_meet
     exact ⟨_, _, _, _, _, _, _, _, rfl, HPQ.out⟩
  case rest =>
   obtain ⟨v6, nX, Xo, Xl, Xc, XO, XL, XC, rfl, qX, hoX, b⟩ := hcut
   replace hA := hA.below b
   replace hB := hB.below b
   replace hoN := hoN.below b
   replace rN := rN.below b
   replace qa := qa.below b
   replace qb := qb.below b
   replace qR := qR.below b
   replace qN := qN.below b
   replace hb := bstep hb b
   replace hsz := Nat.lt_of_lt_of_le hsz b.size
   clear b
   obtain ⟨w4, hw4⟩ : ∃ u, u = wc := ⟨_, rfl⟩
   rw [← hw4] at qa qb qR qN qX hA hB hoN rN hoX hb hsz ⊢
   clear hw4
   have rX := hoX.rq (HSA.out.NF1 h0)
   obtain ⟨cqa0, cqa1, cqa2⟩ := qa.cells
   obtain ⟨cqb0, cqb1, cqb2⟩ := qb.cells
   obtain ⟨cqR0, cqR1, cqR2⟩ := qR.cells
   obtain ⟨cqN0, cqN1, cqN2⟩ := qN.cells
   obtain ⟨cqX0, cqX1, cqX2⟩ := qX.cells
   go_wp2_with fail
   clear cqa0 cqa1 cqa2 cqb0 cqb1 cqb2 cqR0 cqR1 cqR2 cqN0 cqN1 cqN2 cqX0 cqX1 cqX2
   by_cases h6 : nF a < b.num.natAbs / b.den
   ·
     have hq := qCmp rX hB
     obtain ⟨c2, hc⟩ : ∃ c, c = cmpQ (NF a + 1) b := ⟨_, rfl⟩
     have hc2 : c2 ≤ 0 := by rw [hc]; exact (cmp_next HU.out.pos2).2 h6
     rw [← hc] at hq
     clear hc
     refine (hq).mono ?_
     rintro e w318 ⟨rfl, b⟩
     clear hq
     replace hA := hA.below b
     replace hB := hB.below b
     replace hoN := hoN.below b
     replace rN := rN.below b
     replace hoX := hoX.below b
     replace rX := rX.below b
     replace qa := qa.below b
     replace qb := qb.below b
     replace qR := qR.below b
     replace qN := qN.below b
     replace qX := qX.below b
     replace hb := bstep hb b
     replace hsz := Nat.lt_of_lt_of_le hsz b.size
     clear b
     have hz9 : Z = _ := HZ.out.trans (sQ_next9 h0 h6)
     rw [← hz9] at hoX
     obtain ⟨m, d, he, hm, hd, hap⟩ := hoX
     simp only [Value.agg.injEq, Array.mk.injEq, List.cons.injEq, Value.bool.injEq, and_true] at he
     obtain ⟨hbb, rfl, rfl⟩ := he
     have HE : Hid (REnd w Z (.returned (.agg #[.bool nX, .slice Xo Xl Xc, .slice XO XL XC])) (((w318.setCell ⟨g + 1 + 1, 0, none⟩ (.bool nX)).setCell ⟨g + 1 + 1, 1, none⟩ (.slice Xo Xl Xc)).setCell ⟨g + 1 + 1, 2, none⟩ (.slice XO XL XC))) := rat_done hbb (by rw [HG.out]; omega) hm hd hap (Nat.lt_succ_self _) hb
     have HW : Hid (QCell (((w318.setCell ⟨g + 1 + 1, 0, none⟩ (.bool nX)).setCell ⟨g + 1 + 1, 1, none⟩ (.slice Xo Xl Xc)).setCell ⟨g + 1 + 1, 2, none⟩ (.slice XO XL XC)) (g + 1 + 1) nX (.slice Xo Xl Xc) (.slice XO XL XC)) := qR.write _ _ _
     obtain ⟨y0, y1, y2⟩ := qR.cells
     have f0 := qR.thaw 0
     have f1 := qR.thaw 1
     have f2 := qR.thaw 2
     obtain ⟨c0, c1, c2⟩ := qX.cells
     clear hz9 hbb hm hd hap hb hsz qa qb qR qN qX hA hB hoN rN rX
     go_wp2_with fail
     (try simp only [Exit.inBlock, Exit.then])
     exact bodyPost_ret (results_cell_row rfl _ _ (g + 1 + 1) 27 _ (0, 0) _ rfl HW.out Tryz.underlying27 rfl (by kernel_rfl)) rfl HE.out
   ·
     have hq := qCmp rX hB
     obtain ⟨c2, hc⟩ : ∃ c, c = cmpQ (NF a + 1) b := ⟨_, rfl⟩
     have hc2 : ¬ c2 ≤ 0 := by rw [hc]; exact fun e => h6 ((cmp_next HU.out.pos2).1 e)
     rw [← hc] at hq
     clear hc
     refine (hq).mono ?_
     rintro e w318 ⟨rfl, b⟩
     clear hq
     replace hA := hA.below b
     replace hB := hB.below b
     replace hoN := hoN.below b
     replace rN := rN.below b
     replace hoX := hoX.below b
     replace rX := rX.below b
     replace qa := qa.below b
     replace qb := qb.below b
     replace qR := qR.below b
     replace qN := qN.below b
     replace qX := qX.below b
     replace hb := bstep hb b
     replace hsz := Nat.lt_of_lt_of_le hsz b.size
     clear b
     obtain ⟨cqa0, cqa1, cqa2⟩ := qa.cells
     obtain ⟨cqb0, cqb1, cqb2⟩ := qb.cells
     obtain ⟨cqR0, cqR1, cqR2⟩ := qR.cells
     obtain ⟨cqN0, cqN1, cqN2⟩ := qN.cells
     obtain ⟨cqX0, cqX1, cqX2⟩ := qX.cells
     go_wp2_with fail
     clear cqa0 cqa1 cqa2 cqb0 cqb1 cqb2 cqR0 cqR1 cqR2 cqN0 cqN1 cqN2 cqX0 cqX1 cqX2
     clear hoX rX hc0 hc2
     obtain ⟨hm9, _, _⟩ := btw_rest a.den_pos b.den_pos HU.out.nat.2.2 h0 h6
     have hnb : nF a = b.num.natAbs / b.den := hm9.symm
     obtain ⟨x, hx⟩ : ∃ x, x = 1 / (b - NF a) := ⟨_, rfl⟩
     obtain ⟨y, hy⟩ : ∃ y, y = 1 / (a - NF a) := ⟨_, rfl⟩
     obtain ⟨u1, u2, u3, ⟨x1, x2⟩, y1, y2⟩ := sQ_rest HU.out h0 h6 (nF a) rfl x y hx hy
     have HXY : Hid (1 / (b - NF a) = x ∧ 1 / (a - NF a) = y) := ⟨hx.symm, hy.symm⟩
     have HU2 : Hid (UpTo x y) := u1
     have HK2 : Hid (x.den + y.den ≤ K) := by show _ ≤ _; have := HK9.out; omega
     obtain ⟨sv, hsv⟩ : ∃ s, s = sQ x y := ⟨_, rfl⟩
     obtain ⟨tv, htv⟩ : ∃ t, t = 1 / sv := ⟨_, rfl⟩
     have HZ2 : Hid (NF a + tv = Z) := by rw [htv, hsv]; exact (HZ.out.trans u3).symm
     have HSV : Hid (sQ x y = sv ∧ 1 / sv = tv) := ⟨hsv.symm, htv.symm⟩
     have HSX : Hid (RSz x 40) := HSB.out.inv_fl x1 x2
     have HSY : Hid (RSz y 40) := HSA.out.inv_fl y1 y2
     have HSS : Hid (RSz sv 40) := by rw [hsv]; exact u1.sz HSX.out
     have HSZ : Hid (RSz tv 40) := by rw [htv]; exact HSS.out.inv' (by rw [hsv]; exact u1.spos9)
     have HSb : Hid (RSz (b - NF a) 40) := RSz.sub_fl HU.out.pos2 hnb HSB.out
     have HSa : Hid (RSz (a - NF a) 40) := RSz.sub_fl HU.out.pos rfl HSA.out
     have HNb : Hid ((b - NF a).num ≠ 0) := inv_ne (by rw [← hx, x1]; have := b.den_pos; omega)
     have HNa : Hid ((a - NF a).num ≠ 0) := inv_ne (by rw [← hy, y1]; have := a.den_pos; omega)
     have HNs : Hid (sv.num ≠ 0) := by have := u1.spos9; show _ ≠ _; rw [hsv]; omega
     clear hsv htv hm9 hnb hx hy u1 u2 u3 x1 x2 y1 y2 h0 h6
     go_cut [7, 8] (fun t7 t8 wx => ∃ v n o l c O L C, t7 = .pointer (some ⟨v, 0, none⟩) ∧ t8 = .int .i64 0 ∧ QCell wx v n (.slice o l c) (.slice O L C) ∧ RQ wx (.agg #[.bool n, .slice o l c, .slice O L C]) (x) ∧ Below w318.heap.size w318 wx)
     case first =>
      have KEEP : ∀ u, Below w318.heap.size w318 u → L2.AllL u [(1, fun w' => w'.cell? ⟨g + 1, 0, none⟩ = some (.bool nb) ∧ w'.cell? ⟨g + 1, 1, none⟩ = some (.slice bo bl bc) ∧ w'.cell? ⟨g + 1, 2, none⟩ = some (.slice bO bL bC)), (2, fun w' => w'.cell? ⟨v4, 0, none⟩ = some (.bool nN) ∧ w'.cell? ⟨v4, 1, none⟩ = some (.slice No Nl Nc) ∧ w'.cell? ⟨v4, 2, none⟩ = some (.slice NO NL NC))] := fun u B => ⟨(qb.below B).cells, (qN.below B).cells, trivial⟩
      refine L2.region_late [(1, fun w' => w'.cell? ⟨g + 1, 0, none⟩ = some (.bool nb) ∧ w'.cell? ⟨g + 1, 1, none⟩ = some (.slice bo bl bc) ∧ w'.cell? ⟨g + 1, 2, none⟩ = some (.slice bO bL bC)), (2, fun w' => w'.cell? ⟨v4, 0, none⟩ = some (.bool nN) ∧ w'.cell? ⟨v4, 1, none⟩ = some (.slice No Nl Nc) ∧ w'.cell? ⟨v4, 2, none⟩ = some (.slice NO NL NC))] (by kernel_rfl) ?_
      have B0 : Below w318.heap.size w318 w318.drew := below_drew' _
      obtain ⟨w0, hw0⟩ : ∃ u, u = w318.drew := ⟨_, rfl⟩
      rw [← hw0] at B0 ⊢
      clear hw0
      have hHeld := KEEP _ B0
      have khB := hB.below B0
      have krN := rN.below B0
      refine L2.late_tk 1 (v := .agg #[.bool nb, .slice bo bl bc, .slice bO bL bC]) rfl (List.Mem.head _) (Or.inl ⟨by rfl, ?_⟩) hHeld ?_
      · (intro u hu; (try dsimp only at hu); go_split_ands; go_simp)
      try simp only [pu1, pu2, pu3, pu4]
      refine L2.late_tk 2 (v := .agg #[.bool nN, .slice No Nl Nc, .slice NO NL NC]) rfl (List.Mem.tail _ (List.Mem.head _)) (Or.inl ⟨by rfl, ?_⟩) hHeld ?_
      · (intro u hu; (try dsimp only at hu); go_split_ands; go_simp)
      try simp only [pu1, pu2, pu3, pu4]
      refine L2.late_two 0 8 (by kernel_rfl) rfl rfl (fun K hK => ?t336) (fun K hK => ?t337)
      case' t336 =>
       go_simp
       refine (small1 _).mono ?_
       rintro e w319 ⟨v, rfl, hv9, b319⟩
       have r1 := hv9.rq HS1.out
       obtain ⟨m, d9, rfl, hm, hd9, hap⟩ := id hv9
       obtain ⟨io, il, ic, rfl⟩ := hm.sl
       obtain ⟨iO, iL, iC, rfl⟩ := hd9.sl
       clear hm hd9 hap
       clear hv9
       generalize decide ((1 : Rat).num < 0) = ni at *
       replace khB := khB.below b319
       replace krN := krN.below b319
       have B319 : Below w318.heap.size w318 w319 := bstep B0 b319
       clear b319
       replace hHeld := KEEP _ B319
       go_wp2_with fail
       refine hK.out _ _ (L2.AllL.kept hHeld) ?_
       clear hK K
       try simp only [pu1, pu2, pu3, pu4]
       refine L2.late_two 3 8 (by kernel_rfl) rfl rfl (fun K hK => ?t330) (fun K hK => ?t331)
       case' t330 =>
        go_simp
        have hq := qSub khB krN
        refine hq.mono ?_
        rintro e w320 ⟨v, rfl, hv9, b320⟩
        clear hq khB krN
        have r2 := hv9.rq HSb.out
        obtain ⟨m, d9, rfl, hm, hd9, hap⟩ := id hv9
        obtain ⟨jo, jl, jc, rfl⟩ := hm.sl
        obtain ⟨jO, jL, jC, rfl⟩ := hd9.sl
        clear hm hd9 hap
        clear hv9
        generalize decide ((b - NF a).num < 0) = nj at *
        replace r1 := r1.below b320
        have B320 : Below w318.heap.size w318 w320 := bstep B319 b320
        clear b320
        replace hHeld := KEEP _ B320
        go_wp2_with fail
        refine hK.out _ _ (L2.AllL.kept hHeld) ?_
        clear hK K
        try simp only [pu1, pu2, pu3, pu4]
        refine L2.late_two 4 8 (by kernel_rfl) rfl rfl (fun K hK => ?t325) (fun K hK => ?t326)
        case' t325 =>
         go_simp
         have hq := qDiv r1 r2 HNb.out
         rw [HXY.out.1] at hq
         refine hq.mono ?_
         rintro e w321 ⟨v, rfl, hv9, b321⟩
         clear hq r1 r2
         have rT := hv9.rq HSX.out
         obtain ⟨m, d9, rfl, hm, hd9, hap⟩ := id hv9
         obtain ⟨ko, kl, kc, rfl⟩ := hm.sl
         obtain ⟨kO, kL, kC, rfl⟩ := hd9.sl
         clear hm hd9 hap
         clear hv9
         generalize decide ((x).num < 0) = nk at *
         have B321 : Below w318.heap.size w318 w321 := bstep B320 b321
         clear b321
         replace hHeld := KEEP _ B321
         go_wp2_with fail
         refine hK.out _ _ (L2.AllL.kept hHeld) ?_
         clear hK K
         try simp only [pu1, pu2, pu3, pu4]
         refine L2.late_fr 5 (v := .tuple #[.agg #[.bool nk, .slice ko kl kc, .slice kO kL kC], .int .i64 0]) rfl (Or.inl ⟨by rfl, ?_⟩) hHeld ?_
         · (intro u _; go_simp)
         try simp only [pu1, pu2, pu3, pu4]
         refine L2.late_fr 6 (v := .agg #[.bool nk, .slice ko kl kc, .slice kO kL kC]) rfl (Or.inl ⟨by rfl, ?_⟩) hHeld ?_
         · (intro u _; go_simp)
         try simp only [pu1, pu2, pu3, pu4]
         refine L2.late_fr 7 (v := .int .i64 0) rfl (Or.inl ⟨by rfl, ?_⟩) hHeld ?_
         · (intro u _; go_simp)
         try simp only [pu1, pu2, pu3, pu4]
         refine L2.late_st 8 rfl (fun K hK => ?_)
         go_simp
         obtain ⟨w322, vx, hw, hv, pvx, b322, B322⟩ := new_pr B321
         rw [hw, hv]
         clear hw hv
         replace rT := rT.below b322
         clear b322
         replace hHeld := KEEP _ B322
         refine hK.out _ _ (L2.AllL.kept hHeld) ?_
         clear hK K
         try simp only [pu1, pu2, pu3, pu4]
         have Bz := B322
         obtain ⟨wl, rfl⟩ : ∃ u, u = w322 := ⟨_, rfl⟩
        case' t326 =>
         go_simp
         obtain ⟨w323, vx, hw, hv, pvx, b323, B323⟩ := new_pr B320
         rw [hw, hv]
         clear hw hv
         replace r1 := r1.below b323
         replace r2 := r2.below b323
         clear b323
         replace hHeld := KEEP _ B323
         refine hK.out _ _ (L2.AllL.kept hHeld) ?_
         clear hK K
         try simp only [pu1, pu2, pu3, pu4]
         refine L2.late_st 4 rfl (fun K hK => ?_)
         go_simp
         have hq := qDiv r1 r2 HNb.out
         rw [HXY.out.1] at hq
         refine hq.mono ?_
         rintro e w324 ⟨v, rfl, hv9, b324⟩
         clear hq r1 r2
         have rT := hv9.rq HSX.out
         obtain ⟨m, d9, rfl, hm, hd9, hap⟩ := id hv9
         obtain ⟨ko, kl, kc, rfl⟩ := hm.sl
         obtain ⟨kO, kL, kC, rfl⟩ := hd9.sl
         clear hm hd9 hap
         clear hv9
         generalize decide ((x).num < 0) = nk at *
         replace pvx := pvx.below b324
         have B324 : Below w318.heap.size w318 w324 := bstep B323 b324
         clear b324
         replace hHeld := KEEP _ B324
         go_wp2_with fail
         refine hK.out _ _ (L2.AllL.kept hHeld) ?_
         clear hK K
         try simp only [pu1, pu2, pu3, pu4]
         refine L2.late_fr 5 (v := .tuple #[.agg #[.bool nk, .slice ko kl kc, .slice kO kL kC], .int .i64 0]) rfl (Or.inl ⟨by rfl, ?_⟩) hHeld ?_
         · (intro u _; go_simp)
         try simp only [pu1, pu2, pu3, pu4]
         refine L2.late_fr 6 (v := .agg #[.bool nk, .slice ko kl kc, .slice kO kL kC]) rfl (Or.inl ⟨by rfl, ?_⟩) hHeld ?_
         · (intro u _; go_simp)
         try simp only [pu1, pu2, pu3, pu4]
         refine L2.late_fr 7 (v := .int .i64 0) rfl (Or.inl ⟨by rfl, ?_⟩) hHeld ?_
         · (intro u _; go_simp)
         try simp only [pu1, pu2, pu3, pu4]
         have Bz := B324
         obtain ⟨wl, rfl⟩ : ∃ u, u = w324 := ⟨_, rfl⟩
       case' t331 =>
        go_simp
        obtain ⟨w327, vx, hw, hv, pvx, b327, B327⟩ := new_pr B319
        rw [hw, hv]
        clear hw hv
        replace khB := khB.below b327
        replace krN := krN.below b327
        replace r1 := r1.below b327
        clear b327
        replace hHeld := KEEP _ B327
        refine hK.out _ _ (L2.AllL.kept hHeld) ?_
        clear hK K
        try simp only [pu1, pu2, pu3, pu4]
        refine L2.late_st 3 rfl (fun K hK => ?_)
        go_simp
        have hq := qSub khB krN
        refine hq.mono ?_
        rintro e w328 ⟨v, rfl, hv9, b328⟩
        clear hq khB krN
        have r2 := hv9.rq HSb.out
        obtain ⟨m, d9, rfl, hm, hd9, hap⟩ := id hv9
        obtain ⟨jo, jl, jc, rfl⟩ := hm.sl
        obtain ⟨jO, jL, jC, rfl⟩ := hd9.sl
        clear hm hd9 hap
        clear hv9
        generalize decide ((b - NF a).num < 0) = nj at *
        replace r1 := r1.below b328
        replace pvx := pvx.below b328
        have B328 : Below w318.heap.size w318 w328 := bstep B327 b328
        clear b328
        replace hHeld := KEEP _ B328
        go_wp2_with fail
        refine hK.out _ _ (L2.AllL.kept hHeld) ?_
        clear hK K
        try simp only [pu1, pu2, pu3, pu4]
        refine L2.late_st 4 rfl (fun K hK => ?_)
        go_simp
        have hq := qDiv r1 r2 HNb.out
        rw [HXY.out.1] at hq
        refine hq.mono ?_
        rintro e w329 ⟨v, rfl, hv9, b329⟩
        clear hq r1 r2
        have rT := hv9.rq HSX.out
        obtain ⟨m, d9, rfl, hm, hd9, hap⟩ := id hv9
        obtain ⟨ko, kl, kc, rfl⟩ := hm.sl
        obtain ⟨kO, kL, kC, rfl⟩ := hd9.sl
        clear hm hd9 hap
        clear hv9
        generalize decide ((x).num < 0) = nk at *
        replace pvx := pvx.below b329
        have B329 : Below w318.heap.size w318 w329 := bstep B328 b329
        clear b329
        replace hHeld := KEEP _ B329
        go_wp2_with fail
        refine hK.out _ _ (L2.AllL.kept hHeld) ?_
        clear hK K
        try simp only [pu1, pu2, pu3, pu4]
        refine L2.late_fr 5 (v := .tuple #[.agg #[.bool nk, .slice ko kl kc, .slice kO kL kC], .int .i64 0]) rfl (Or.inl ⟨by rfl, ?_⟩) hHeld ?_
        · (intro u _; go_simp)
        try simp only [pu1, pu2, pu3, pu4]
        refine L2.late_fr 6 (v := .agg #[.bool nk, .slice ko kl kc, .slice kO kL kC]) rfl (Or.inl ⟨by rfl, ?_⟩) hHeld ?_
        · (intro u _; go_simp)
        try simp only [pu1, pu2, pu3, pu4]
        refine L2.late_fr 7 (v := .int .i64 0) rfl (Or.inl ⟨by rfl, ?_⟩) hHeld ?_
        · (intro u _; go_simp)
        try simp only [pu1, pu2, pu3, pu4]
        have Bz := B329
        obtain ⟨wl, rfl⟩ : ∃ u, u = w329 := ⟨_, rfl⟩
      case' t337 =>
       go_simp
       obtain ⟨w332, vx, hw, hv, pvx, b332, B332⟩ := new_pr B0
       rw [hw, hv]
       clear hw hv
       replace khB := khB.below b332
       replace krN := krN.below b332
       clear b332
       replace hHeld := KEEP _ B332
       refine hK.out _ _ (L2.AllL.kept hHeld) ?_
       clear hK K
       try simp only [pu1, pu2, pu3, pu4]
       refine L2.late_st 0 rfl (fun K hK => ?_)
       go_simp
       refine (small1 _).mono ?_
       rintro e w333 ⟨v, rfl, hv9, b333⟩
       have r1 := hv9.rq HS1.out
       obtain ⟨m, d9, rfl, hm, hd9, hap⟩ := id hv9
       obtain ⟨io, il, ic, rfl⟩ := hm.sl
       obtain ⟨iO, iL, iC, rfl⟩ := hd9.sl
       clear hm hd9 hap
       clear hv9
       generalize decide ((1 : Rat).num < 0) = ni at *
       replace khB := khB.below b333
       replace krN := krN.below b333
       replace pvx := pvx.below b333
       have B333 : Below w318.heap.size w318 w333 := bstep B332 b333
       clear b333
       replace hHeld := KEEP _ B333
       go_wp2_with fail
       refine hK.out _ _ (L2.AllL.kept hHeld) ?_
       clear hK K
       try simp only [pu1, pu2, pu3, pu4]
       refine L2.late_st 3 rfl (fun K hK => ?_)
       go_simp
       have hq := qSub khB krN
       refine hq.mono ?_
       rintro e w334 ⟨v, rfl, hv9, b334⟩
       clear hq khB krN
       have r2 := hv9.rq HSb.out
       obtain ⟨m, d9, rfl, hm, hd9, hap⟩ := id hv9
       obtain ⟨jo, jl, jc, rfl⟩ := hm.sl
       obtain ⟨jO, jL, jC, rfl⟩ := hd9.sl
       clear hm hd9 hap
       clear hv9
       generalize decide ((b - NF a).num < 0) = nj at *
       replace r1 := r1.below b334
       replace pvx := pvx.below b334
       have B334 : Below w318.heap.size w318 w334 := bstep B333 b334
       clear b334
       replace hHeld := KEEP _ B334
       go_wp2_with fail
       refine hK.out _ _ (L2.AllL.kept hHeld) ?_
       clear hK K
       try simp only [pu1, pu2, pu3, pu4]
       refine L2.late_st 4 rfl (fun K hK => ?_)
       go_simp
       have hq := qDiv r1 r2 HNb.out
       rw [HXY.out.1] at hq
       refine hq.mono ?_
       rintro e w335 ⟨v, rfl, hv9, b335⟩
       clear hq r1 r2
       have rT := hv9.rq HSX.out
       obtain ⟨m, d9, rfl, hm, hd9, hap⟩ := id hv9
       obtain ⟨ko, kl, kc, rfl⟩ := hm.sl
       obtain ⟨kO, kL, kC, rfl⟩ := hd9.sl
       clear hm hd9 hap
       clear hv9
       generalize decide ((x).num < 0) = nk at *
       replace pvx := pvx.below b335
       have B335 : Below w318.heap.size w318 w335 := bstep B334 b335
       clear b335
       replace hHeld := KEEP _ B335
       go_wp2_with fail
       refine hK.out _ _ (L2.AllL.kept hHeld) ?_
       clear hK K
       try simp only [pu1, pu2, pu3, pu4]
       refine L2.late_fr 5 (v := .tuple #[.agg #[.bool nk, .slice ko kl kc, .slice kO kL kC], .int .i64 0]) rfl (Or.inl ⟨by rfl, ?_⟩) hHeld ?_
       · (intro u _; go_simp)
       try simp only [pu1, pu2, pu3, pu4]
       refine L2.late_fr 6 (v := .agg #[.bool nk, .slice ko kl kc, .slice kO kL kC]) rfl (Or.inl ⟨by rfl, ?_⟩) hHeld ?_
       · (intro u _; go_simp)
       try simp only [pu1, pu2, pu3, pu4]
       refine L2.late_fr 7 (v := .int .i64 0) rfl (Or.inl ⟨by rfl, ?_⟩) hHeld ?_
       · (intro u _; go_simp)
       try simp only [pu1, pu2, pu3, pu4]
       have Bz := B335
       obtain ⟨wl, rfl⟩ : ∃ u, u = w335 := ⟨_, rfl⟩
      all_goals
        have HPQ : Hid _ := pr_end pvx rT Bz
        obtain ⟨y0, y1, y2⟩ := pvx.c.cells
        have f0 := pvx.c.thaw 0
        have f1 := pvx.c.thaw 1
        have f2 := pvx.c.thaw 2
        clear pvx rT Bz KEEP
        refine L2.late_st 9 rfl (fun K hK => ?_)
        go_simp
        refine hK.out _ _ ⟨kpt 3, kpt 3, trivial⟩ ?_
        clear hK K
        try simp only [pu1, pu2, pu3, pu4]
        refine L2.late_st 10 rfl (fun K hK => ?_)
        go_simp
        refine hK.out _ _ ⟨kpt 3, kpt 3, trivial⟩ ?_
        clear hK K
        try simp only [pu1, pu2, pu3, pu4]
        refine L2.late_done (by kernel_rfl) ?_ _
        clear hHeld y0 y1 y2 f0 f1 f2
        go_wp2_with fail
        go_meet
        exact ⟨_, _, _, _, _, _, _, _, rfl, rfl, HPQ.out⟩
     case rest =>
      obtain ⟨vx, nx, xo, xl, xc, xO, xL, xC, rfl, rfl, qx, rx, b⟩ := hcut
      replace hA := hA.below b
      replace hB := hB.below b
      replace hoN := hoN.below b
      replace rN := rN.below b
      replace qa := qa.below b
      replace qb := qb.below b
      replace qR := qR.below b
      replace qN := qN.below b
      replace qX := qX.below b
      replace hb := bstep hb b
      replace hsz := Nat.lt_of_lt_of_le hsz b.size
      clear b
      obtain ⟨wx9, hw4⟩ : ∃ u, u = wc := ⟨_, rfl⟩
      rw [← hw4] at qa qb qR qN qX qx hA hB hoN rN rx hb hsz ⊢
      clear hw4
      obtain ⟨cqa0, cqa1, cqa2⟩ := qa.cells
      obtain ⟨cqb0, cqb1, cqb2⟩ := qb.cells
      obtain ⟨cqR0, cqR1, cqR2⟩ := qR.cells
      obtain ⟨cqN0, cqN1, cqN2⟩ := qN.cells
      obtain ⟨cqX0, cqX1, cqX2⟩ := qX.cells
      obtain ⟨cqx0, cqx1, cqx2⟩ := qx.cells
      go_wp2_with fail
      clear cqa0 cqa1 cqa2 cqb0 cqb1 cqb2 cqR0 cqR1 cqR2 cqN0 cqN1 cqN2 cqX0 cqX1 cqX2 cqx0 cqx1 cqx2
      go_cut [9, 10] (fun t9 t10 wx => ∃ v n o l c O L C, t9 = .pointer (some ⟨v, 0, none⟩) ∧ t10 = .int .i64 0 ∧ QCell wx v n (.slice o l c) (.slice O L C) ∧ RQ wx (.agg #[.bool n, .slice o l c, .slice O L C]) (y) ∧ Below wx9.heap.size wx9 wx)
      case first =>
        have KEEP : ∀ u, Below wx9.heap.size wx9 u → L2.AllL u [(1, fun w' => w'.cell? ⟨g, 0, none⟩ = some (.bool na) ∧ w'.cell? ⟨g, 1, none⟩ = some (.slice ao al ac) ∧ w'.cell? ⟨g, 2, none⟩ = some (.slice aO aL aC)), (2, fun w' => w'.cell? ⟨v4, 0, none⟩ = some (.bool nN) ∧ w'.cell? ⟨v4, 1, none⟩ = some (.slice No Nl Nc) ∧ w'.cell? ⟨v4, 2, none⟩ = some (.slice NO NL NC))] := fun u B => ⟨(qa.below B).cells, (qN.below B).cells, trivial⟩
        refine L2.region_late [(1, fun w' => w'.cell? ⟨g, 0, none⟩ = some (.bool na) ∧ w'.cell? ⟨g, 1, none⟩ = some (.slice ao al ac) ∧ w'.cell? ⟨g, 2, none⟩ = some (.slice aO aL aC)), (2, fun w' => w'.cell? ⟨v4, 0, none⟩ = some (.bool nN) ∧ w'.cell? ⟨v4, 1, none⟩ = some (.slice No Nl Nc) ∧ w'.cell? ⟨v4, 2, none⟩ = some (.slice NO NL NC))] (by kernel_rfl) ?_
        have B0 : Below wx9.heap.size wx9 wx9.drew := below_drew' _
        obtain ⟨w0, hw0⟩ : ∃ u, u = wx9.drew := ⟨_, rfl⟩
        rw [← hw0] at B0 ⊢
        clear hw0
        have hHeld := KEEP _ B0
        have khA := hA.below B0
        have krN := rN.below B0
        refine L2.late_tk 1 (v := .agg #[.bool na, .slice ao al ac, .slice aO aL aC]) rfl (List.Mem.head _) (Or.inl ⟨by rfl, ?_⟩) hHeld ?_
        · (intro u hu; (try dsimp only at hu); go_split_ands; go_simp)
        try simp only [pu1, pu2, pu3, pu4]
        refine L2.late_tk 2 (v := .agg #[.bool nN, .slice No Nl Nc, .slice NO NL NC]) rfl (List.Mem.tail _ (List.Mem.head _)) (Or.inl ⟨by rfl, ?_⟩) hHeld ?_
        · (intro u hu; (try dsimp only at hu); go_split_ands; go_simp)
        try simp only [pu1, pu2, pu3, pu4]
        refine L2.late_two 0 8 (by kernel_rfl) rfl rfl (fun K hK => ?t455) (fun K hK => ?t456)
        case' t455 =>
         go_simp
         refine (small1 _).mono ?_
         rintro e w438 ⟨v, rfl, hv9, b438⟩
         have r1 := hv9.rq HS1.out
         obtain ⟨m, d9, rfl, hm, hd9, hap⟩ := id hv9
         obtain ⟨io, il, ic, rfl⟩ := hm.sl
         obtain ⟨iO, iL, iC, rfl⟩ := hd9.sl
         clear hm hd9 hap
         clear hv9
         generalize decide ((1 : Rat).num < 0) = ni at *
         replace khA := khA.below b438
         replace krN := krN.below b438
         have B438 : Below wx9.heap.size wx9 w438 := bstep B0 b438
         clear b438
         replace hHeld := KEEP _ B438
         go_wp2_with fail
         refine hK.out _ _ (L2.AllL.kept hHeld) ?_
         clear hK K
         try simp only [pu1, pu2, pu3, pu4]
         refine L2.late_two 3 8 (by kernel_rfl) rfl rfl (fun K hK => ?t449) (fun K hK => ?t450)
         case' t449 =>
          go_simp
          have hq := qSub khA krN
          refine hq.mono ?_
          rintro e w439 ⟨v, rfl, hv9, b439⟩
          clear hq khA krN
          have r2 := hv9.rq HSa.out
          obtain ⟨m, d9, rfl, hm, hd9, hap⟩ := id hv9
          obtain ⟨jo, jl, jc, rfl⟩ := hm.sl
          obtain ⟨jO, jL, jC, rfl⟩ := hd9.sl
          clear hm hd9 hap
          clear hv9
          generalize decide ((a - NF a).num < 0) = nj at *
          replace r1 := r1.below b439
          have B439 : Below wx9.heap.size wx9 w439 := bstep B438 b439
          clear b439
          replace hHeld := KEEP _ B439
          go_wp2_with fail
          refine hK.out _ _ (L2.AllL.kept hHeld) ?_
          clear hK K
          try simp only [pu1, pu2, pu3, pu4]
          refine L2.late_two 4 8 (by kernel_rfl) rfl rfl (fun K hK => ?t444) (fun K hK => ?t445)
          case' t444 =>
           go_simp
           have hq := qDiv r1 r2 HNa.out
           rw [HXY.out.2] at hq
           refine hq.mono ?_
           rintro e w440 ⟨v, rfl, hv9, b440⟩
           clear hq r1 r2
           have rT := hv9.rq HSY.out
           obtain ⟨m, d9, rfl, hm, hd9, hap⟩ := id hv9
           obtain ⟨ko, kl, kc, rfl⟩ := hm.sl
           obtain ⟨kO, kL, kC, rfl⟩ := hd9.sl
           clear hm hd9 hap
           clear hv9
           generalize decide ((y).num < 0) = nk at *
           have B440 : Below wx9.heap.size wx9 w440 := bstep B439 b440
           clear b440
           replace hHeld := KEEP _ B440
           go_wp2_with fail
           refine hK.out _ _ (L2.AllL.kept hHeld) ?_
           clear hK K
           try simp only [pu1, pu2, pu3, pu4]
           refine L2.late_fr 5 (v := .tuple #[.agg #[.bool nk, .slice ko kl kc, .slice kO kL kC], .int .i64 0]) rfl (Or.inl ⟨by rfl, ?_⟩) hHeld ?_
           · (intro u _; go_simp)
           try simp only [pu1, pu2, pu3, pu4]
           refine L2.late_fr 6 (v := .agg #[.bool nk, .slice ko kl kc, .slice kO kL kC]) rfl (Or.inl ⟨by rfl, ?_⟩) hHeld ?_
           · (intro u _; go_simp)
           try simp only [pu1, pu2, pu3, pu4]
           refine L2.late_fr 7 (v := .int .i64 0) rfl (Or.inl ⟨by rfl, ?_⟩) hHeld ?_
           · (intro u _; go_simp)
           try simp only [pu1, pu2, pu3, pu4]
           refine L2.late_st 8 rfl (fun K hK => ?_)
           go_simp
           obtain ⟨w441, vx, hw, hv, pvx, b441, B441⟩ := new_pr B440
           rw [hw, hv]
           clear hw hv
           replace rT := rT.below b441
           clear b441
           replace hHeld := KEEP _ B441
           refine hK.out _ _ (L2.AllL.kept hHeld) ?_
           clear hK K
           try simp only [pu1, pu2, pu3, pu4]
           have Bz := B441
           obtain ⟨wl, rfl⟩ : ∃ u, u = w441 := ⟨_, rfl⟩
          case' t445 =>
           go_simp
           obtain ⟨w442, vx, hw, hv, pvx, b442, B442⟩ := new_pr B439
           rw [hw, hv]
           clear hw hv
           replace r1 := r1.below b442
           replace r2 := r2.below b442
           clear b442
           replace hHeld := KEEP _ B442
           refine hK.out _ _ (L2.AllL.kept hHeld) ?_
           clear hK K
           try simp only [pu1, pu2, pu3, pu4]
           refine L2.late_st 4 rfl (fun K hK => ?_)
           go_simp
           have hq := qDiv r1 r2 HNa.out
           rw [HXY.out.2] at hq
           refine hq.mono ?_
           rintro e w443 ⟨v, rfl, hv9, b443⟩
           clear hq r1 r2
           have rT := hv9.rq HSY.out
           obtain ⟨m, d9, rfl, hm, hd9, hap⟩ := id hv9
           obtain ⟨ko, kl, kc, rfl⟩ := hm.sl
           obtain ⟨kO, kL, kC, rfl⟩ := hd9.sl
           clear hm hd9 hap
           clear hv9
           generalize decide ((y).num < 0) = nk at *
           replace pvx := pvx.below b443
           have B443 : Below wx9.heap.size wx9 w443 := bstep B442 b443
           clear b443
           replace hHeld := KEEP _ B443
           go_wp2_with fail
           refine hK.out _ _ (L2.AllL.kept hHeld) ?_
           clear hK K
           try simp only [pu1, pu2, pu3, pu4]
           refine L2.late_fr 5 (v := .tuple #[.agg #[.bool nk, .slice ko kl kc, .slice kO kL kC], .int .i64 0]) rfl (Or.inl ⟨by rfl, ?_⟩) hHeld ?_
           · (intro u _; go_simp)
           try simp only [pu1, pu2, pu3, pu4]
           refine L2.late_fr 6 (v := .agg #[.bool nk, .slice ko kl kc, .slice kO kL kC]) rfl (Or.inl ⟨by rfl, ?_⟩) hHeld ?_
           · (intro u _; go_simp)
           try simp only [pu1, pu2, pu3, pu4]
           refine L2.late_fr 7 (v := .int .i64 0) rfl (Or.inl ⟨by rfl, ?_⟩) hHeld ?_
           · (intro u _; go_simp)
           try simp only [pu1, pu2, pu3, pu4]
           have Bz := B443
           obtain ⟨wl, rfl⟩ : ∃ u, u = w443 := ⟨_, rfl⟩
         case' t450 =>
          go_simp
          obtain ⟨w446, vx, hw, hv, pvx, b446, B446⟩ := new_pr B438
          rw [hw, hv]
          clear hw hv
          replace khA := khA.below b446
          replace krN := krN.below b446
          replace r1 := r1.below b446
          clear b446
          replace hHeld := KEEP _ B446
          refine hK.out _ _ (L2.AllL.kept hHeld) ?_
          clear hK K
          try simp only [pu1, pu2, pu3, pu4]
          refine L2.late_st 3 rfl (fun K hK => ?_)
          go_simp
          have hq := qSub khA krN
          refine hq.mono ?_
          rintro e w447 ⟨v, rfl, hv9, b447⟩
          clear hq khA krN
          have r2 := hv9.rq HSa.out
          obtain ⟨m, d9, rfl, hm, hd9, hap⟩ := id hv9
          obtain ⟨jo, jl, jc, rfl⟩ := hm.sl
          obtain ⟨jO, jL, jC, rfl⟩ := hd9.sl
          clear hm hd9 hap
          clear hv9
          generalize decide ((a - NF a).num < 0) = nj at *
          replace r1 := r1.below b447
          replace pvx := pvx.below b447
          have B447 : Below wx9.heap.size wx9 w447 := bstep B446 b447
          clear b447
          replace hHeld := KEEP _ B447
          go_wp2_with fail
          refine hK.out _ _ (L2.AllL.kept hHeld) ?_
          clear hK K
          try simp only [pu1, pu2, pu3, pu4]
          refine L2.late_st 4 rfl (fun K hK => ?_)
          go_simp
          have hq := qDiv r1 r2 HNa.out
          rw [HXY.out.2] at hq
          refine hq.mono ?_
          rintro e w448 ⟨v, rfl, hv9, b448⟩
          clear hq r1 r2
          have rT := hv9.rq HSY.out
          obtain ⟨m, d9, rfl, hm, hd9, hap⟩ := id hv9
          obtain ⟨ko, kl, kc, rfl⟩ := hm.sl
          obtain ⟨kO, kL, kC, rfl⟩ := hd9.sl
          clear hm hd9 hap
          clear hv9
          generalize decide ((y).num < 0) = nk at *
          replace pvx := pvx.below b448
          have B448 : Below wx9.heap.size wx9 w448 := bstep B447 b448
          clear b448
          replace hHeld := KEEP _ B448
          go_wp2_with fail
          refine hK.out _ _ (L2.AllL.kept hHeld) ?_
          clear hK K
          try simp only [pu1, pu2, pu3, pu4]
          refine L2.late_fr 5 (v := .tuple #[.agg #[.bool nk, .slice ko kl kc, .slice kO kL kC], .int .i64 0]) rfl (Or.inl ⟨by rfl, ?_⟩) hHeld ?_
          · (intro u _; go_simp)
          try simp only [pu1, pu2, pu3, pu4]
          refine L2.late_fr 6 (v := .agg #[.bool nk, .slice ko kl kc, .slice kO kL kC]) rfl (Or.inl ⟨by rfl, ?_⟩) hHeld ?_
          · (intro u _; go_simp)
          try simp only [pu1, pu2, pu3, pu4]
          refine L2.late_fr 7 (v := .int .i64 0) rfl (Or.inl ⟨by rfl, ?_⟩) hHeld ?_
          · (intro u _; go_simp)
          try simp only [pu1, pu2, pu3, pu4]
          have Bz := B448
          obtain ⟨wl, rfl⟩ : ∃ u, u = w448 := ⟨_, rfl⟩
        case' t456 =>
         go_simp
         obtain ⟨w451, vx, hw, hv, pvx, b451, B451⟩ := new_pr B0
         rw [hw, hv]
         clear hw hv
         replace khA := khA.below b451
         replace krN := krN.below b451
         clear b451
         replace hHeld := KEEP _ B451
         refine hK.out _ _ (L2.AllL.kept hHeld) ?_
         clear hK K
         try simp only [pu1, pu2, pu3, pu4]
         refine L2.late_st 0 rfl (fun K hK => ?_)
         go_simp
         refine (small1 _).mono ?_
         rintro e w452 ⟨v, rfl, hv9, b452⟩
         have r1 := hv9.rq HS1.out
         obtain ⟨m, d9, rfl, hm, hd9, hap⟩ := id hv9
         obtain ⟨io, il, ic, rfl⟩ := hm.sl
         obtain ⟨iO, iL, iC, rfl⟩ := hd9.sl
         clear hm hd9 hap
         clear hv9
         generalize decide ((1 : Rat).num < 0) = ni at *
         replace khA := khA.below b452
         replace krN := krN.below b452
         replace pvx := pvx.below b452
         have B452 : Below wx9.heap.size wx9 w452 := bstep B451 b452
         clear b452
         replace hHeld := KEEP _ B452
         go_wp2_with fail
         refine hK.out _ _ (L2.AllL.kept hHeld) ?_
         clear hK K
         try simp only [pu1, pu2, pu3, pu4]
         refine L2.late_st 3 rfl (fun K hK => ?_)
         go_simp
         have hq := qSub khA krN
         refine hq.mono ?_
         rintro e w453 ⟨v, rfl, hv9, b453⟩
         clear hq khA krN
         have r2 := hv9.rq HSa.out
         obtain ⟨m, d9, rfl, hm, hd9, hap⟩ := id hv9
         obtain ⟨jo, jl, jc, rfl⟩ := hm.sl
         obtain ⟨jO, jL, jC, rfl⟩ := hd9.sl
         clear hm hd9 hap
         clear hv9
         generalize decide ((a - NF a).num < 0) = nj at *
         replace r1 := r1.below b453
         replace pvx := pvx.below b453
         have B453 : Below wx9.heap.size wx9 w453 := bstep B452 b453
         clear b453
         replace hHeld := KEEP _ B453
         go_wp2_with fail
         refine hK.out _ _ (L2.AllL.kept hHeld) ?_
         clear hK K
         try simp only [pu1, pu2, pu3, pu4]
         refine L2.late_st 4 rfl (fun K hK => ?_)
         go_simp
         have hq := qDiv r1 r2 HNa.out
         rw [HXY.out.2] at hq
         refine hq.mono ?_
         rintro e w454 ⟨v, rfl, hv9, b454⟩
         clear hq r1 r2
         have rT := hv9.rq HSY.out
         obtain ⟨m, d9, rfl, hm, hd9, hap⟩ := id hv9
         obtain ⟨ko, kl, kc, rfl⟩ := hm.sl
         obtain ⟨kO, kL, kC, rfl⟩ := hd9.sl
         clear hm hd9 hap
         clear hv9
         generalize decide ((y).num < 0) = nk at *
         replace pvx := pvx.below b454
         have B454 : Below wx9.heap.size wx9 w454 := bstep B453 b454
         clear b454
         replace hHeld := KEEP _ B454
         go_wp2_with fail
         refine hK.out _ _ (L2.AllL.kept hHeld) ?_
         clear hK K
         try simp only [pu1, pu2, pu3, pu4]
         refine L2.late_fr 5 (v := .tuple #[.agg #[.bool nk, .slice ko kl kc, .slice kO kL kC], .int .i64 0]) rfl (Or.inl ⟨by rfl, ?_⟩) hHeld ?_
         · (intro u _; go_simp)
         try simp only [pu1, pu2, pu3, pu4]
         refine L2.late_fr 6 (v := .agg #[.bool nk, .slice ko kl kc, .slice kO kL kC]) rfl (Or.inl ⟨by rfl, ?_⟩) hHeld ?_
         · (intro u _; go_simp)
         try simp only [pu1, pu2, pu3, pu4]
         refine L2.late_fr 7 (v := .int .i64 0) rfl (Or.inl ⟨by rfl, ?_⟩) hHeld ?_
         · (intro u _; go_simp)
         try simp only [pu1, pu2, pu3, pu4]
         have Bz := B454
         obtain ⟨wl, rfl⟩ : ∃ u, u = w454 := ⟨_, rfl⟩
        all_goals
          have HPQ : Hid _ := pr_end pvx rT Bz
          obtain ⟨y0, y1, y2⟩ := pvx.c.cells
          have f0 := pvx.c.thaw 0
          have f1 := pvx.c.thaw 1
          have f2 := pvx.c.thaw 2
          clear pvx rT Bz KEEP
          refine L2.late_st 9 rfl (fun K hK => ?_)
          go_simp
          refine hK.out _ _ ⟨kpt 3, kpt 3, trivial⟩ ?_
          clear hK K
          try simp only [pu1, pu2, pu3, pu4]
          refine L2.late_st 10 rfl (fun K hK => ?_)
          go_simp
          refine hK.out _ _ ⟨kpt 3, kpt 3, trivial⟩ ?_
          clear hK K
          try simp only [pu1, pu2, pu3, pu4]
          refine L2.late_done (by kernel_rfl) ?_ _
          clear hHeld y0 y1 y2 f0 f1 f2
          go_wp2_with fail
          go_meet
          exact ⟨_, _, _, _, _, _, _, _, rfl, rfl, HPQ.out⟩
      case rest =>
        obtain ⟨vy, ny, yo, yl, yc, yO, yL, yC, rfl, rfl, qy, ry, b⟩ := hcut
        replace hA := hA.below b
        replace hB := hB.below b
        replace hoN := hoN.below b
        replace rN := rN.below b
        replace rx := rx.below b
        replace qa := qa.below b
        replace qb := qb.below b
        replace qR := qR.below b
        replace qN := qN.below b
        replace qX := qX.below b
        replace qx := qx.below b
        replace hb := bstep hb b
        replace hsz := Nat.lt_of_lt_of_le hsz b.size
        clear b
        obtain ⟨wy9, hw4⟩ : ∃ u, u = wc := ⟨_, rfl⟩
        rw [← hw4] at qa qb qR qN qX qx qy hA hB hoN rN rx ry hb hsz ⊢
        clear hw4
        obtain ⟨cqa0, cqa1, cqa2⟩ := qa.cells
        obtain ⟨cqb0, cqb1, cqb2⟩ := qb.cells
        obtain ⟨cqR0, cqR1, cqR2⟩ := qR.cells
        obtain ⟨cqN0, cqN1, cqN2⟩ := qN.cells
        obtain ⟨cqX0, cqX1, cqX2⟩ := qX.cells
        obtain ⟨cqx0, cqx1, cqx2⟩ := qx.cells
        obtain ⟨cqy0, cqy1, cqy2⟩ := qy.cells
        go_wp2_with fail
        clear cqa0 cqa1 cqa2 cqb0 cqb1 cqb2 cqR0 cqR1 cqR2 cqN0 cqN1 cqN2 cqX0 cqX1 cqX2 cqx0 cqx1 cqx2 cqy0 cqy1 cqy2
        have IH9 := fun {W : World} {va vb : Value} (h1 : RQ W va x) (h2 : RQ W vb y) => (show Calls Tryz.prog 43 #[va, vb] W fun e w' => REnd W sv e w' by have h := IH.out W va vb x y h1 h2 HU2.out HK2.out; rw [HSV.out.1] at h; exact h)
        go_cut [11, 12] (fun t11 t12 wx => ∃ v n o l c O L C, t11 = .pointer (some ⟨v, 0, none⟩) ∧ t12 = .int .i64 0 ∧ QCell wx v n (.slice o l c) (.slice O L C) ∧ RQ wx (.agg #[.bool n, .slice o l c, .slice O L C]) (tv) ∧ Below wy9.heap.size wy9 wx)
        case first =>
          have KEEP : ∀ u, Below wy9.heap.size wy9 u → L2.AllL u [(1, fun w' => w'.cell? ⟨vx, 0, none⟩ = some (.bool nx) ∧ w'.cell? ⟨vx, 1, none⟩ = some (.slice xo xl xc) ∧ w'.cell? ⟨vx, 2, none⟩ = some (.slice xO xL xC)), (2, fun w' => w'.cell? ⟨vy, 0, none⟩ = some (.bool ny) ∧ w'.cell? ⟨vy, 1, none⟩ = some (.slice yo yl yc) ∧ w'.cell? ⟨vy, 2, none⟩ = some (.slice yO yL yC))] := fun u B => ⟨(qx.below B).cells, (qy.below B).cells, trivial⟩
          refine L2.region_late [(1, fun w' => w'.cell? ⟨vx, 0, none⟩ = some (.bool nx) ∧ w'.cell? ⟨vx, 1, none⟩ = some (.slice xo xl xc) ∧ w'.cell? ⟨vx, 2, none⟩ = some (.slice xO xL xC)), (2, fun w' => w'.cell? ⟨vy, 0, none⟩ = some (.bool ny) ∧ w'.cell? ⟨vy, 1, none⟩ = some (.slice yo yl yc) ∧ w'.cell? ⟨vy, 2, none⟩ = some (.slice yO yL yC))] (by kernel_rfl) ?_
          have B0 : Below wy9.heap.size wy9 wy9.drew := below_drew' _
          obtain ⟨w0, hw0⟩ : ∃ u, u = wy9.drew := ⟨_, rfl⟩
          rw [← hw0] at B0 ⊢
          clear hw0
          have hHeld := KEEP _ B0
          have krx := rx.below B0
          have kry := ry.below B0
          refine L2.late_tk 1 (v := .agg #[.bool nx, .slice xo xl xc, .slice xO xL xC]) rfl (List.Mem.head _) (Or.inl ⟨by rfl, ?_⟩) hHeld ?_
          · (intro u hu; (try dsimp only at hu); go_split_ands; go_simp)
          try simp only [pu1, pu2, pu3, pu4]
          refine L2.late_tk 2 (v := .agg #[.bool ny, .slice yo yl yc, .slice yO yL yC]) rfl (List.Mem.tail _ (List.Mem.head _)) (Or.inl ⟨by rfl, ?_⟩) hHeld ?_
          · (intro u hu; (try dsimp only at hu); go_split_ands; go_simp)
          try simp only [pu1, pu2, pu3, pu4]
          refine L2.late_two 0 8 (by kernel_rfl) rfl rfl (fun K hK => ?t574) (fun K hK => ?t575)
          case' t574 =>
           go_simp
           refine (small1 _).mono ?_
           rintro e w557 ⟨v, rfl, hv9, b557⟩
           have r1 := hv9.rq HS1.out
           obtain ⟨m, d9, rfl, hm, hd9, hap⟩ := id hv9
           obtain ⟨io, il, ic, rfl⟩ := hm.sl
           obtain ⟨iO, iL, iC, rfl⟩ := hd9.sl
           clear hm hd9 hap
           clear hv9
           generalize decide ((1 : Rat).num < 0) = ni at *
           replace krx := krx.below b557
           replace kry := kry.below b557
           have B557 : Below wy9.heap.size wy9 w557 := bstep B0 b557
           clear b557
           replace hHeld := KEEP _ B557
           go_wp2_with fail
           refine hK.out _ _ (L2.AllL.kept hHeld) ?_
           clear hK K
           try simp only [pu1, pu2, pu3, pu4]
           refine L2.late_two 3 8 (by kernel_rfl) rfl rfl (fun K hK => ?t568) (fun K hK => ?t569)
           case' t568 =>
            go_simp
            have hq := IH9 krx kry
            refine hq.mono ?_
            rintro e w558 ⟨v, rfl, hv9, b558⟩
            clear hq krx kry
            have r2 := hv9.rq HSS.out
            obtain ⟨m, d9, rfl, hm, hd9, hap⟩ := id hv9
            obtain ⟨jo, jl, jc, rfl⟩ := hm.sl
            obtain ⟨jO, jL, jC, rfl⟩ := hd9.sl
            clear hm hd9 hap
            clear hv9
            generalize decide ((sv).num < 0) = nj at *
            replace r1 := r1.below b558
            have B558 : Below wy9.heap.size wy9 w558 := bstep B557 b558
            clear b558
            replace hHeld := KEEP _ B558
            go_wp2_with fail
            refine hK.out _ _ (L2.AllL.kept hHeld) ?_
            clear hK K
            try simp only [pu1, pu2, pu3, pu4]
            refine L2.late_two 4 8 (by kernel_rfl) rfl rfl (fun K hK => ?t563) (fun K hK => ?t564)
            case' t563 =>
             go_simp
             have hq := qDiv r1 r2 HNs.out
             rw [HSV.out.2] at hq
             refine hq.mono ?_
             rintro e w559 ⟨v, rfl, hv9, b559⟩
             clear hq r1 r2
             have rT := hv9.rq HSZ.out
             obtain ⟨m, d9, rfl, hm, hd9, hap⟩ := id hv9
             obtain ⟨ko, kl, kc, rfl⟩ := hm.sl
             obtain ⟨kO, kL, kC, rfl⟩ := hd9.sl
             clear hm hd9 hap
             clear hv9
             generalize decide ((tv).num < 0) = nk at *
             have B559 : Below wy9.heap.size wy9 w559 := bstep B558 b559
             clear b559
             replace hHeld := KEEP _ B559
             go_wp2_with fail
             refine hK.out _ _ (L2.AllL.kept hHeld) ?_
             clear hK K
             try simp only [pu1, pu2, pu3, pu4]
             refine L2.late_fr 5 (v := .tuple #[.agg #[.bool nk, .slice ko kl kc, .slice kO kL kC], .int .i64 0]) rfl (Or.inl ⟨by rfl, ?_⟩) hHeld ?_
             · (intro u _; go_simp)
             try simp only [pu1, pu2, pu3, pu4]
             refine L2.late_fr 6 (v := .agg #[.bool nk, .slice ko kl kc, .slice kO kL kC]) rfl (Or.inl ⟨by rfl, ?_⟩) hHeld ?_
             · (intro u _; go_simp)
             try simp only [pu1, pu2, pu3, pu4]
             refine L2.late_fr 7 (v := .int .i64 0) rfl (Or.inl ⟨by rfl, ?_⟩) hHeld ?_
             · (intro u _; go_simp)
             try simp only [pu1, pu2, pu3, pu4]
             refine L2.late_st 8 rfl (fun K hK => ?_)
             go_simp
             obtain ⟨w560, vx, hw, hv, pvx, b560, B560⟩ := new_pr B559
             rw [hw, hv]
             clear hw hv
             replace rT := rT.below b560
             clear b560
             replace hHeld := KEEP _ B560
             refine hK.out _ _ (L2.AllL.kept hHeld) ?_
             clear hK K
             try simp only [pu1, pu2, pu3, pu4]
             have Bz := B560
             obtain ⟨wl, rfl⟩ : ∃ u, u = w560 := ⟨_, rfl⟩
            case' t564 =>
             go_simp
             obtain ⟨w561, vx, hw, hv, pvx, b561, B561⟩ := new_pr B558
             rw [hw, hv]
             clear hw hv
             replace r1 := r1.below b561
             replace r2 := r2.below b561
             clear b561
             replace hHeld := KEEP _ B561
             refine hK.out _ _ (L2.AllL.kept hHeld) ?_
             clear hK K
             try simp only [pu1, pu2, pu3, pu4]
             refine L2.late_st 4 rfl (fun K hK => ?_)
             go_simp
             have hq := qDiv r1 r2 HNs.out
             rw [HSV.out.2] at hq
             refine hq.mono ?_
             rintro e w562 ⟨v, rfl, hv9, b562⟩
             clear hq r1 r2
             have rT := hv9.rq HSZ.out
             obtain ⟨m, d9, rfl, hm, hd9, hap⟩ := id hv9
             obtain ⟨ko, kl, kc, rfl⟩ := hm.sl
             obtain ⟨kO, kL, kC, rfl⟩ := hd9.sl
             clear hm hd9 hap
             clear hv9
             generalize decide ((tv).num < 0) = nk at *
             replace pvx := pvx.below b562
             have B562 : Below wy9.heap.size wy9 w562 := bstep B561 b562
             clear b562
             replace hHeld := KEEP _ B562
             go_wp2_with fail
             refine hK.out _ _ (L2.AllL.kept hHeld) ?_
             clear hK K
             try simp only [pu1, pu2, pu3, pu4]
             refine L2.late_fr 5 (v := .tuple #[.agg #[.bool nk, .slice ko kl kc, .slice kO kL kC], .int .i64 0]) rfl (Or.inl ⟨by rfl, ?_⟩) hHeld ?_
             · (intro u _; go_simp)
             try simp only [pu1, pu2, pu3, pu4]
             refine L2.late_fr 6 (v := .agg #[.bool nk, .slice ko kl kc, .slice kO kL kC]) rfl (Or.inl ⟨by rfl, ?_⟩) hHeld ?_
             · (intro u _; go_simp)
             try simp only [pu1, pu2, pu3, pu4]
             refine L2.late_fr 7 (v := .int .i64 0) rfl (Or.inl ⟨by rfl, ?_⟩) hHeld ?_
             · (intro u _; go_simp)
             try simp only [pu1, pu2, pu3, pu4]
             have Bz := B562
             obtain ⟨wl, rfl⟩ : ∃ u, u = w562 := ⟨_, rfl⟩
           case' t569 =>
            go_simp
            obtain ⟨w565, vx, hw, hv, pvx, b565, B565⟩ := new_pr B557
            rw [hw, hv]
            clear hw hv
            replace krx := krx.below b565
            replace kry := kry.below b565
            replace r1 := r1.below b565
            clear b565
            replace hHeld := KEEP _ B565
            refine hK.out _ _ (L2.AllL.kept hHeld) ?_
            clear hK K
            try simp only [pu1, pu2, pu3, pu4]
            refine L2.late_st 3 rfl (fun K hK => ?_)
            go_simp
            have hq := IH9 krx kry
            refine hq.mono ?_
            rintro e w566 ⟨v, rfl, hv9, b566⟩
            clear hq krx kry
            have r2 := hv9.rq HSS.out
            obtain ⟨m, d9, rfl, hm, hd9, hap⟩ := id hv9
            obtain ⟨jo, jl, jc, rfl⟩ := hm.sl
            obtain ⟨jO, jL, jC, rfl⟩ := hd9.sl
            clear hm hd9 hap
            clear hv9
            generalize decide ((sv).num < 0) = nj at *
            replace r1 := r1.below b566
            replace pvx := pvx.below b566
            have B566 : Below wy9.heap.size wy9 w566 := bstep B565 b566
            clear b566
            replace hHeld := KEEP _ B566
            go_wp2_with fail
            refine hK.out _ _ (L2.AllL.kept hHeld) ?_
            clear hK K
            try simp only [pu1, pu2, pu3, pu4]
            refine L2.late_st 4 rfl (fun K hK => ?_)
            go_simp
            have hq := qDiv r1 r2 HNs.out
            rw [HSV.out.2] at hq
            refine hq.mono ?_
            rintro e w567 ⟨v, rfl, hv9, b567⟩
            clear hq r1 r2
            have rT := hv9.rq HSZ.out
            obtain ⟨m, d9, rfl, hm, hd9, hap⟩ := id hv9
            obtain ⟨ko, kl, kc, rfl⟩ := hm.sl
            obtain ⟨kO, kL, kC, rfl⟩ := hd9.sl
            clear hm hd9 hap
            clear hv9
            generalize decide ((tv).num < 0) = nk at *
            replace pvx := pvx.below b567
            have B567 : Below wy9.heap.size wy9 w567 := bstep B566 b567
            clear b567
            replace hHeld := KEEP _ B567
            go_wp2_with fail
            refine hK.out _ _ (L2.AllL.kept hHeld) ?_
            clear hK K
            try simp only [pu1, pu2, pu3, pu4]
            refine L2.late_fr 5 (v := .tuple #[.agg #[.bool nk, .slice ko kl kc, .slice kO kL kC], .int .i64 0]) rfl (Or.inl ⟨by rfl, ?_⟩) hHeld ?_
            · (intro u _; go_simp)
            try simp only [pu1, pu2, pu3, pu4]
            refine L2.late_fr 6 (v := .agg #[.bool nk, .slice ko kl kc, .slice kO kL kC]) rfl (Or.inl ⟨by rfl, ?_⟩) hHeld ?_
            · (intro u _; go_simp)
            try simp only [pu1, pu2, pu3, pu4]
            refine L2.late_fr 7 (v := .int .i64 0) rfl (Or.inl ⟨by rfl, ?_⟩) hHeld ?_
            · (intro u _; go_simp)
            try simp only [pu1, pu2, pu3, pu4]
            have Bz := B567
            obtain ⟨wl, rfl⟩ : ∃ u, u = w567 := ⟨_, rfl⟩
          case' t575 =>
           go_simp
           obtain ⟨w570, vx, hw, hv, pvx, b570, B570⟩ := new_pr B0
           rw [hw, hv]
           clear hw hv
           replace krx := krx.below b570
           replace kry := kry.below b570
           clear b570
           replace hHeld := KEEP _ B570
           refine hK.out _ _ (L2.AllL.kept hHeld) ?_
           clear hK K
           try simp only [pu1, pu2, pu3, pu4]
           refine L2.late_st 0 rfl (fun K hK => ?_)
           go_simp
           refine (small1 _).mono ?_
           rintro e w571 ⟨v, rfl, hv9, b571⟩
           have r1 := hv9.rq HS1.out
           obtain ⟨m, d9, rfl, hm, hd9, hap⟩ := id hv9
           obtain ⟨io, il, ic, rfl⟩ := hm.sl
           obtain ⟨iO, iL, iC, rfl⟩ := hd9.sl
           clear hm hd9 hap
           clear hv9
           generalize decide ((1 : Rat).num < 0) = ni at *
           replace krx := krx.below b571
           replace kry := kry.below b571
           replace pvx := pvx.below b571
           have B571 : Below wy9.heap.size wy9 w571 := bstep B570 b571
           clear b571
           replace hHeld := KEEP _ B571
           go_wp2_with fail
           refine hK.out _ _ (L2.AllL.kept hHeld) ?_
           clear hK K
           try simp only [pu1, pu2, pu3, pu4]
           refine L2.late_st 3 rfl (fun K hK => ?_)
           go_simp
           have hq := IH9 krx kry
           refine hq.mono ?_
           rintro e w572 ⟨v, rfl, hv9, b572⟩
           clear hq krx kry
           have r2 := hv9.rq HSS.out
           obtain ⟨m, d9, rfl, hm, hd9, hap⟩ := id hv9
           obtain ⟨jo, jl, jc, rfl⟩ := hm.sl
           obtain ⟨jO, jL, jC, rfl⟩ := hd9.sl
           clear hm hd9 hap
           clear hv9
           generalize decide ((sv).num < 0) = nj at *
           replace r1 := r1.below b572
           replace pvx := pvx.below b572
           have B572 : Below wy9.heap.size wy9 w572 := bstep B571 b572
           clear b572
           replace hHeld := KEEP _ B572
           go_wp2_with fail
           refine hK.out _ _ (L2.AllL.kept hHeld) ?_
           clear hK K
           try simp only [pu1, pu2, pu3, pu4]
           refine L2.late_st 4 rfl (fun K hK => ?_)
           go_simp
           have hq := qDiv r1 r2 HNs.out
           rw [HSV.out.2] at hq
           refine hq.mono ?_
           rintro e w573 ⟨v, rfl, hv9, b573⟩
           clear hq r1 r2
           have rT := hv9.rq HSZ.out
           obtain ⟨m, d9, rfl, hm, hd9, hap⟩ := id hv9
           obtain ⟨ko, kl, kc, rfl⟩ := hm.sl
           obtain ⟨kO, kL, kC, rfl⟩ := hd9.sl
           clear hm hd9 hap
           clear hv9
           generalize decide ((tv).num < 0) = nk at *
           replace pvx := pvx.below b573
           have B573 : Below wy9.heap.size wy9 w573 := bstep B572 b573
           clear b573
           replace hHeld := KEEP _ B573
           go_wp2_with fail
           refine hK.out _ _ (L2.AllL.kept hHeld) ?_
           clear hK K
           try simp only [pu1, pu2, pu3, pu4]
           refine L2.late_fr 5 (v := .tuple #[.agg #[.bool nk, .slice ko kl kc, .slice kO kL kC], .int .i64 0]) rfl (Or.inl ⟨by rfl, ?_⟩) hHeld ?_
           · (intro u _; go_simp)
           try simp only [pu1, pu2, pu3, pu4]
           refine L2.late_fr 6 (v := .agg #[.bool nk, .slice ko kl kc, .slice kO kL kC]) rfl (Or.inl ⟨by rfl, ?_⟩) hHeld ?_
           · (intro u _; go_simp)
           try simp only [pu1, pu2, pu3, pu4]
           refine L2.late_fr 7 (v := .int .i64 0) rfl (Or.inl ⟨by rfl, ?_⟩) hHeld ?_
           · (intro u _; go_simp)
           try simp only [pu1, pu2, pu3, pu4]
           have Bz := B573
           obtain ⟨wl, rfl⟩ : ∃ u, u = w573 := ⟨_, rfl⟩
          all_goals
            have HPQ : Hid _ := pr_end pvx rT Bz
            obtain ⟨y0, y1, y2⟩ := pvx.c.cells
            have f0 := pvx.c.thaw 0
            have f1 := pvx.c.thaw 1
            have f2 := pvx.c.thaw 2
            clear pvx rT Bz KEEP
            refine L2.late_st 9 rfl (fun K hK => ?_)
            go_simp
            refine hK.out _ _ ⟨kpt 3, kpt 3, trivial⟩ ?_
            clear hK K
            try simp only [pu1, pu2, pu3, pu4]
            refine L2.late_st 10 rfl (fun K hK => ?_)
            go_simp
            refine hK.out _ _ ⟨kpt 3, kpt 3, trivial⟩ ?_
            clear hK K
            try simp only [pu1, pu2, pu3, pu4]
            refine L2.late_done (by kernel_rfl) ?_ _
            clear hHeld y0 y1 y2 f0 f1 f2
            go_wp2_with fail
            go_meet
            exact ⟨_, _, _, _, _, _, _, _, rfl, rfl, HPQ.out⟩
        case rest =>
          obtain ⟨vz, nz, zo, zl, zc, zO, zL, zC, rfl, rfl, qz, rz, b⟩ := hcut
          replace hA := hA.below b
          replace hB := hB.below b
          replace hoN := hoN.below b
          replace rN := rN.below b
          replace rx := rx.below b
          replace ry := ry.below b
          replace qa := qa.below b
          replace qb := qb.below b
          replace qR := qR.below b
          replace qN := qN.below b
          replace qX := qX.below b
          replace qx := qx.below b
          replace qy := qy.below b
          replace hb := bstep hb b
          replace hsz := Nat.lt_of_lt_of_le hsz b.size
          clear b
          obtain ⟨wz9, hw4⟩ : ∃ u, u = wc := ⟨_, rfl⟩
          rw [← hw4] at qa qb qR qN qX qx qy qz hA hB hoN rN rx ry rz hb hsz ⊢
          clear hw4
          obtain ⟨cqa0, cqa1, cqa2⟩ := qa.cells
          obtain ⟨cqb0, cqb1, cqb2⟩ := qb.cells
          obtain ⟨cqR0, cqR1, cqR2⟩ := qR.cells
          obtain ⟨cqN0, cqN1, cqN2⟩ := qN.cells
          obtain ⟨cqX0, cqX1, cqX2⟩ := qX.cells
          obtain ⟨cqx0, cqx1, cqx2⟩ := qx.cells
          obtain ⟨cqy0, cqy1, cqy2⟩ := qy.cells
          obtain ⟨cqz0, cqz1, cqz2⟩ := qz.cells
          go_wp2_with fail
          clear cqa0 cqa1 cqa2 cqb0 cqb1 cqb2 cqR0 cqR1 cqR2 cqN0 cqN1 cqN2 cqX0 cqX1 cqX2 cqx0 cqx1 cqx2 cqy0 cqy1 cqy2 cqz0 cqz1 cqz2
          have hq := qAdd rN rz
          rw [HZ2.out] at hq
          have hszz := hsz
          refine (hq).mono ?_
          rintro e w676 ⟨v, rfl, hv, b⟩
          clear hq
          obtain ⟨m, d, rfl, hm, hd, hap⟩ := hv
          obtain ⟨mo, ml, mc, rfl⟩ := hm.sl
          obtain ⟨mO, mL, mC, rfl⟩ := hd.sl
          replace hA := hA.below b
          replace hB := hB.below b
          replace hoN := hoN.below b
          replace rN := rN.below b
          replace rx := rx.below b
          replace ry := ry.below b
          replace rz := rz.below b
          replace qa := qa.below b
          replace qb := qb.below b
          replace qR := qR.below b
          replace qN := qN.below b
          replace qX := qX.below b
          replace qx := qx.below b
          replace qy := qy.below b
          replace qz := qz.below b
          replace hb := bstep hb b
          replace hsz := Nat.lt_of_lt_of_le hsz b.size
          clear b
          have qq := qR
          have HE : Hid (REnd w Z (.returned (.agg #[.bool (decide (Z.num < 0)), .slice mo ml mc, .slice mO mL mC])) (((w676.setCell ⟨g + 1 + 1, 0, none⟩ (.bool (decide (Z.num < 0)))).setCell ⟨g + 1 + 1, 1, none⟩ (.slice mo ml mc)).setCell ⟨g + 1 + 1, 2, none⟩ (.slice mO mL mC))) := rat_done rfl (by rw [HG.out]; omega) hm hd hap hszz (hb)
          have HW : Hid (QCell (((w676.setCell ⟨g + 1 + 1, 0, none⟩ (.bool (decide (Z.num < 0)))).setCell ⟨g + 1 + 1, 1, none⟩ (.slice mo ml mc)).setCell ⟨g + 1 + 1, 2, none⟩ (.slice mO mL mC)) (g + 1 + 1) (decide (Z.num < 0)) (.slice mo ml mc) (.slice mO mL mC)) := qq.write _ _ _
          obtain ⟨y0, y1, y2⟩ := qq.cells
          have f0 := qq.thaw 0
          have f1 := qq.thaw 1
          have f2 := qq.thaw 2
          generalize decide (Z.num < 0) = bb at *
          clear qq hap
          clear hb hsz hszz hm hd qa qb qR qN qX qx qy qz hA hB hoN rN rx ry rz
          go_wp2_with fail
          (try simp only [Exit.inBlock, Exit.then])
          exact bodyPost_ret (results_cell_row rfl _ _ (g + 1 + 1) 27 _ (0, 0) _ rfl HW.out Tryz.underlying27 rfl (by kernel_rfl)) rfl HE.out
theorem between3 : ∀ (K : Nat), ∀ (w : World) (va vb : Value) (a b : Rat), RQ w va a → RQ w vb b → UpTo a b → a.den + b.den ≤ K → Calls Tryz.prog 43 #[va, vb] w fun e w' => REnd w (sQ a b) e w'
 | 0, _, _, _, a, _, _, _, _, hk => absurd hk (by have := a.den_pos; omega)
 | K + 1, _, _, _, _, _, hA, hB, hu, hk => between3_step K (between3 K) hA hB hu hk
open Go.RowKit
attribute [local go_sem ↓] Go.wp_at_zero Go.wp_at_succ

theorem rsimp_no {w : World} {va vb : Value} {a b : Rat} (hA : RQ w va a) (hB : RQ w vb b) (hc : 0 < cmpQ a b) : Calls Tryz.prog 13 #[va, vb] w fun e w' => RNo3 w e w' := by
 obtain ⟨na, ao, al, ac, aO, aL, aC, rfl⟩ := hA.see
 obtain ⟨nb, bo, bl, bc, bO, bL, bC, rfl⟩ := hB.see
 have HC : Hid (0 < cmpQ a b) := hc
 clear hc
 obtain ⟨W1, hW1⟩ : ∃ W1, W1 = ((w.alloc (.cells #[.bool na, .slice ao al ac, .slice aO aL aC] 27)).alloc (.cells #[.bool nb, .slice bo bl bc, .slice bO bL bC] 27)).alloc (.cells #[.bool false, .slice none 0 0, .slice none 0 0] 27) := ⟨_, rfl⟩
 have qa : QCell W1 (w.heap.size) na (.slice ao al ac) (.slice aO aL aC) := by rw [hW1]; exact (qcell_step (qcell_step (qcell_new _ (by simp))))
 have qb : QCell W1 (w.heap.size + 1) nb (.slice bo bl bc) (.slice bO bL bC) := by rw [hW1]; exact (qcell_step (qcell_new _ (by simp)))
 have qR : QCell W1 (w.heap.size + 1 + 1) false (.slice none 0 0) (.slice none 0 0) := by rw [hW1]; exact (qcell_new _ (by simp))
 have hb : Below w.heap.size w W1 := by rw [hW1]; exact bstep (bstep (belowA w _) (belowA _ _)) (belowA _ _)
 have hsz : w.heap.size + 1 + 1 < W1.heap.size := by rw [hW1]; simp
 replace hA := hA.below hb
 replace hB := hB.below hb
 have HW1 : Hid (W1 = ((w.alloc (.cells #[.bool na, .slice ao al ac, .slice aO aL aC] 27)).alloc (.cells #[.bool nb, .slice bo bl bc, .slice bO bL bC] 27)).alloc (.cells #[.bool false, .slice none 0 0, .slice none 0 0] 27)) := hW1
 clear hW1
 go_enter Tryz.func13, Tryz.ntmps13
 go_wp2_with fail
 rw [← HW1.out]
 clear HW1
 obtain ⟨g, hg⟩ : ∃ g, g = w.heap.size := ⟨_, rfl⟩
 rw [← hg] at qa qb qR hsz ⊢
 have HG : Hid (g = w.heap.size) := hg
 clear hg
 obtain ⟨cqa0, cqa1, cqa2⟩ := qa.cells
 obtain ⟨cqb0, cqb1, cqb2⟩ := qb.cells
 obtain ⟨cqR0, cqR1, cqR2⟩ := qR.cells
 go_wp2_with fail
 clear cqa0 cqa1 cqa2 cqb0 cqb1 cqb2 cqR0 cqR1 cqR2
 have hq := qCmp hA hB
 obtain ⟨c, hc⟩ : ∃ c, c = cmpQ a b := ⟨_, rfl⟩
 have hc0 : 0 < c := by rw [hc]; have := HC.out; omega
 rw [← hc] at hq
 clear hc
 refine (hq).mono ?_
 rintro e w2 ⟨rfl, b⟩
 clear hq
 replace hA := hA.below b
 replace hB := hB.below b
 replace qa := qa.below b
 replace qb := qb.below b
 replace qR := qR.below b
 replace hb := bstep hb b
 replace hsz := Nat.lt_of_lt_of_le hsz b.size
 clear b
 have HE : Hid (Below w.heap.size w (((w2.setCell ⟨g + 1 + 1, 0, none⟩ (.bool false)).setCell ⟨g + 1 + 1, 1, none⟩ (.slice none 0 0)).setCell ⟨g + 1 + 1, 2, none⟩ (.slice none 0 0))) := iend3 hb (by rw [HG.out]; omega)
 have HW : Hid (QCell (((w2.setCell ⟨g + 1 + 1, 0, none⟩ (.bool false)).setCell ⟨g + 1 + 1, 1, none⟩ (.slice none 0 0)).setCell ⟨g + 1 + 1, 2, none⟩ (.slice none 0 0)) (g + 1 + 1) false (.slice none 0 0) (.slice none 0 0)) := qR.write _ _ _
 obtain ⟨y0, y1, y2⟩ := qR.cells
 have f0 := qR.thaw 0
 have f1 := qR.thaw 1
 have f2 := qR.thaw 2
 clear hb hsz hA hB qa qb qR
 go_wp2_with fail
 (try simp only [Exit.inBlock, Exit.then])
 exact bodyPost_ret (results_ct (p := 4) (u := 5) rfl _ _ (g + 1 + 1) 27 _ (0, 0) _ rfl HW.out Tryz.underlying27 rfl (by kernel_rfl)) rfl ⟨rfl, HE.out⟩
theorem rsimp_pos {w : World} {va vb : Value} {a b : Rat} (hA : RQ w va a) (hB : RQ w vb b) (hc : cmpQ a b ≤ 0) (hp : 0 < a.num) : Calls Tryz.prog 13 #[va, vb] w fun e w' => RTEnd w (sQ a b) e w' := by
 obtain ⟨na, ao, al, ac, aO, aL, aC, rfl⟩ := hA.see
 obtain ⟨nb, bo, bl, bc, bO, bL, bC, rfl⟩ := hB.see
 have HC : Hid (cmpQ a b ≤ 0) := hc
 have HU : Hid (UpTo a b) := ⟨hp, cmpQ_le (by omega)⟩
 have H1 : Hid (0 < sgnQ a ∧ 0 < sgnQ b) := ⟨sgn_pos.2 hp, sgn_pos.2 (UpTo.pos2 ⟨hp, cmpQ_le (by omega)⟩)⟩
 obtain ⟨Z, hZ⟩ : ∃ Z, Z = sQ a b := ⟨_, rfl⟩
 rw [← hZ]
 have HZ : Hid (sQ a b = Z) := hZ.symm
 clear hc hp hZ
 obtain ⟨W1, hW1⟩ : ∃ W1, W1 = ((w.alloc (.cells #[.bool na, .slice ao al ac, .slice aO aL aC] 27)).alloc (.cells #[.bool nb, .slice bo bl bc, .slice bO bL bC] 27)).alloc (.cells #[.bool false, .slice none 0 0, .slice none 0 0] 27) := ⟨_, rfl⟩
 have qa : QCell W1 (w.heap.size) na (.slice ao al ac) (.slice aO aL aC) := by rw [hW1]; exact (qcell_step (qcell_step (qcell_new _ (by simp))))
 have qb : QCell W1 (w.heap.size + 1) nb (.slice bo bl bc) (.slice bO bL bC) := by rw [hW1]; exact (qcell_step (qcell_new _ (by simp)))
 have qR : QCell W1 (w.heap.size + 1 + 1) false (.slice none 0 0) (.slice none 0 0) := by rw [hW1]; exact (qcell_new _ (by simp))
 have hb : Below w.heap.size w W1 := by rw [hW1]; exact bstep (bstep (belowA w _) (belowA _ _)) (belowA _ _)
 have hsz : w.heap.size + 1 + 1 < W1.heap.size := by rw [hW1]; simp
 replace hA := hA.below hb
 replace hB := hB.below hb
 have HW1 : Hid (W1 = ((w.alloc (.cells #[.bool na, .slice ao al ac, .slice aO aL aC] 27)).alloc (.cells #[.bool nb, .slice bo bl bc, .slice bO bL bC] 27)).alloc (.cells #[.bool false, .slice none 0 0, .slice none 0 0] 27)) := hW1
 clear hW1
 go_enter Tryz.func13, Tryz.ntmps13
 go_wp2_with fail
 rw [← HW1.out]
 clear HW1
 obtain ⟨g, hg⟩ : ∃ g, g = w.heap.size := ⟨_, rfl⟩
 rw [← hg] at qa qb qR hsz ⊢
 have HG : Hid (g = w.heap.size) := hg
 clear hg
 obtain ⟨cqa0, cqa1, cqa2⟩ := qa.cells
 obtain ⟨cqb0, cqb1, cqb2⟩ := qb.cells
 obtain ⟨cqR0, cqR1, cqR2⟩ := qR.cells
 go_wp2_with fail
 clear cqa0 cqa1 cqa2 cqb0 cqb1 cqb2 cqR0 cqR1 cqR2
 have hq := qCmp hA hB
 obtain ⟨c, hc⟩ : ∃ c, c = cmpQ a b := ⟨_, rfl⟩
 have hc0 : ¬ 0 < c := by rw [hc]; have := HC.out; omega
 rw [← hc] at hq
 clear hc
 refine (hq).mono ?_
 rintro e w2 ⟨rfl, b⟩
 clear hq
 replace hA := hA.below b
 replace hB := hB.below b
 replace qa := qa.below b
 replace qb := qb.below b
 replace qR := qR.below b
 replace hb := bstep hb b
 replace hsz := Nat.lt_of_lt_of_le hsz b.size
 clear b
 obtain ⟨cqa0, cqa1, cqa2⟩ := qa.cells
 obtain ⟨cqb0, cqb1, cqb2⟩ := qb.cells
 obtain ⟨cqR0, cqR1, cqR2⟩ := qR.cells
 go_wp2_with fail
 clear cqa0 cqa1 cqa2 cqb0 cqb1 cqb2 cqR0 cqR1 cqR2
 have hq := qSign hA
 obtain ⟨sa, hs⟩ : ∃ s, s = sgnQ a := ⟨_, rfl⟩
 have hsa : ¬ sa ≤ 0 := by rw [hs]; have := H1.out; omega
 rw [← hs] at hq
 clear hs
 refine (hq).mono ?_
 rintro e w3 ⟨rfl, b⟩
 clear hq
 replace hA := hA.below b
 replace hB := hB.below b
 replace qa := qa.below b
 replace qb := qb.below b
 replace qR := qR.below b
 replace hb := bstep hb b
 replace hsz := Nat.lt_of_lt_of_le hsz b.size
 clear b
 obtain ⟨cqa0, cqa1, cqa2⟩ := qa.cells
 obtain ⟨cqb0, cqb1, cqb2⟩ := qb.cells
 obtain ⟨cqR0, cqR1, cqR2⟩ := qR.cells
 go_wp2_with fail
 clear cqa0 cqa1 cqa2 cqb0 cqb1 cqb2 cqR0 cqR1 cqR2
 have hq := qSign hB
 obtain ⟨sb, hs⟩ : ∃ s, s = sgnQ b := ⟨_, rfl⟩
 have hsb : ¬ sb < 0 := by rw [hs]; have := H1.out; omega
 rw [← hs] at hq
 clear hs
 refine (hq).mono ?_
 rintro e w4 ⟨rfl, b⟩
 clear hq
 replace hA := hA.below b
 replace hB := hB.below b
 replace qa := qa.below b
 replace qb := qb.below b
 replace qR := qR.below b
 replace hb := bstep hb b
 replace hsz := Nat.lt_of_lt_of_le hsz b.size
 clear b
 obtain ⟨cqa0, cqa1, cqa2⟩ := qa.cells
 obtain ⟨cqb0, cqb1, cqb2⟩ := qb.cells
 obtain ⟨cqR0, cqR1, cqR2⟩ := qR.cells
 go_wp2_with fail
 clear cqa0 cqa1 cqa2 cqb0 cqb1 cqb2 cqR0 cqR1 cqR2
 have hq := between3 _ _ _ _ a b hA hB HU.out (Nat.le_refl _)
 rw [HZ.out] at hq
 have hszz := hsz
 refine (hq).mono ?_
 rintro e w5 ⟨v, rfl, hv, b⟩
 clear hq
 obtain ⟨m, d, rfl, hm, hd, hap⟩ := hv
 obtain ⟨mo, ml, mc, rfl⟩ := hm.sl
 obtain ⟨mO, mL, mC, rfl⟩ := hd.sl
 replace hA := hA.below b
 replace hB := hB.below b
 replace qa := qa.below b
 replace qb := qb.below b
 replace qR := qR.below b
 replace hb := bstep hb b
 replace hsz := Nat.lt_of_lt_of_le hsz b.size
 clear b
 have qq := qR
 have HE : Hid (REnd w Z (.returned (.agg #[.bool (decide (Z.num < 0)), .slice mo ml mc, .slice mO mL mC])) (((w5.setCell ⟨g + 1 + 1, 0, none⟩ (.bool (decide (Z.num < 0)))).setCell ⟨g + 1 + 1, 1, none⟩ (.slice mo ml mc)).setCell ⟨g + 1 + 1, 2, none⟩ (.slice mO mL mC))) := rat_done rfl (by rw [HG.out]; omega) hm hd hap hszz (hb)
 have HW : Hid (QCell (((w5.setCell ⟨g + 1 + 1, 0, none⟩ (.bool (decide (Z.num < 0)))).setCell ⟨g + 1 + 1, 1, none⟩ (.slice mo ml mc)).setCell ⟨g + 1 + 1, 2, none⟩ (.slice mO mL mC)) (g + 1 + 1) (decide (Z.num < 0)) (.slice mo ml mc) (.slice mO mL mC)) := qq.write _ _ _
 obtain ⟨y0, y1, y2⟩ := qq.cells
 have f0 := qq.thaw 0
 have f1 := qq.thaw 1
 have f2 := qq.thaw 2
 generalize decide (Z.num < 0) = bb at *
 clear qq hap
 clear hb hsz hszz hm hd qa qb qR hA hB
 go_wp2_with fail
 (try simp only [Exit.inBlock, Exit.then])
 exact bodyPost_ret (results_ct (p := 4) (u := 5) rfl _ _ (g + 1 + 1) 27 _ (0, 0) _ rfl HW.out Tryz.underlying27 rfl (by kernel_rfl)) rfl HE.out.t
theorem rsimp_zero {w : World} {va vb : Value} {a b : Rat} (hA : RQ w va a) (hB : RQ w vb b) (hc : cmpQ a b ≤ 0) (hp : ¬ 0 < a.num) (hr : ¬ b.num < 0) (Z : Rat) (hZ : Z = 0) : Calls Tryz.prog 13 #[va, vb] w fun e w' => RTEnd w Z e w' := by
 obtain ⟨na, ao, al, ac, aO, aL, aC, rfl⟩ := hA.see
 obtain ⟨nb, bo, bl, bc, bO, bL, bC, rfl⟩ := hB.see
 have HC : Hid (cmpQ a b ≤ 0) := hc
 have H1 : Hid (sgnQ a ≤ 0 ∧ 0 ≤ sgnQ b) := ⟨by have := sgn_pos (x := a); omega, by have := sgn_neg (x := b); omega⟩
 have HZ : Hid (Z = 0) := hZ
 clear hc hp hr hZ
 obtain ⟨W1, hW1⟩ : ∃ W1, W1 = ((w.alloc (.cells #[.bool na, .slice ao al ac, .slice aO aL aC] 27)).alloc (.cells #[.bool nb, .slice bo bl bc, .slice bO bL bC] 27)).alloc (.cells #[.bool false, .slice none 0 0, .slice none 0 0] 27) := ⟨_, rfl⟩
 have qa : QCell W1 (w.heap.size) na (.slice ao al ac) (.slice aO aL aC) := by rw [hW1]; exact (qcell_step (qcell_step (qcell_new _ (by simp))))
 have qb : QCell W1 (w.heap.size + 1) nb (.slice bo bl bc) (.slice bO bL bC) := by rw [hW1]; exact (qcell_step (qcell_new _ (by simp)))
 have qR : QCell W1 (w.heap.size + 1 + 1) false (.slice none 0 0) (.slice none 0 0) := by rw [hW1]; exact (qcell_new _ (by simp))
 have hb : Below w.heap.size w W1 := by rw [hW1]; exact bstep (bstep (belowA w _) (belowA _ _)) (belowA _ _)
 have hsz : w.heap.size + 1 + 1 < W1.heap.size := by rw [hW1]; simp
 replace hA := hA.below hb
 replace hB := hB.below hb
 have HW1 : Hid (W1 = ((w.alloc (.cells #[.bool na, .slice ao al ac, .slice aO aL aC] 27)).alloc (.cells #[.bool nb, .slice bo bl bc, .slice bO bL bC] 27)).alloc (.cells #[.bool false, .slice none 0 0, .slice none 0 0] 27)) := hW1
 clear hW1
 go_enter Tryz.func13, Tryz.ntmps13
 go_wp2_with fail
 rw [← HW1.out]
 clear HW1
 obtain ⟨g, hg⟩ : ∃ g, g = w.heap.size := ⟨_, rfl⟩
 rw [← hg] at qa qb qR hsz ⊢
 have HG : Hid (g = w.heap.size) := hg
 clear hg
 obtain ⟨cqa0, cqa1, cqa2⟩ := qa.cells
 obtain ⟨cqb0, cqb1, cqb2⟩ := qb.cells
 obtain ⟨cqR0, cqR1, cqR2⟩ := qR.cells
 go_wp2_with fail
 clear cqa0 cqa1 cqa2 cqb0 cqb1 cqb2 cqR0 cqR1 cqR2
 have hq := qCmp hA hB
 obtain ⟨c, hc⟩ : ∃ c, c = cmpQ a b := ⟨_, rfl⟩
 have hc0 : ¬ 0 < c := by rw [hc]; have := HC.out; omega
 rw [← hc] at hq
 clear hc
 refine (hq).mono ?_
 rintro e w2 ⟨rfl, b⟩
 clear hq
 replace hA := hA.below b
 replace hB := hB.below b
 replace qa := qa.below b
 replace qb := qb.below b
 replace qR := qR.below b
 replace hb := bstep hb b
 replace hsz := Nat.lt_of_lt_of_le hsz b.size
 clear b
 obtain ⟨cqa0, cqa1, cqa2⟩ := qa.cells
 obtain ⟨cqb0, cqb1, cqb2⟩ := qb.cells
 obtain ⟨cqR0, cqR1, cqR2⟩ := qR.cells
 go_wp2_with fail
 clear cqa0 cqa1 cqa2 cqb0 cqb1 cqb2 cqR0 cqR1 cqR2
 have hq := qSign hA
 obtain ⟨sa, hs⟩ : ∃ s, s = sgnQ a := ⟨_, rfl⟩
 have hsa : sa ≤ 0 := by rw [hs]; have := H1.out; omega
 rw [← hs] at hq
 clear hs
 refine (hq).mono ?_
 rintro e w3 ⟨rfl, b⟩
 clear hq
 replace hA := hA.below b
 replace hB := hB.below b
 replace qa := qa.below b
 replace qb := qb.below b
 replace qR := qR.below b
 replace hb := bstep hb b
 replace hsz := Nat.lt_of_lt_of_le hsz b.size
 clear b
 obtain ⟨cqa0, cqa1, cqa2⟩ := qa.cells
 obtain ⟨cqb0, cqb1, cqb2⟩ := qb.cells
 obtain ⟨cqR0, cqR1, cqR2⟩ := qR.cells
 go_wp2_with fail
 clear cqa0 cqa1 cqa2 cqb0 cqb1 cqb2 cqR0 cqR1 cqR2
 have hq := qSign hB
 obtain ⟨sb, hs⟩ : ∃ s, s = sgnQ b := ⟨_, rfl⟩
 have hsb : 0 ≤ sb := by rw [hs]; have := H1.out; omega
 rw [← hs] at hq
 clear hs
 refine (hq).mono ?_
 rintro e w4 ⟨rfl, b⟩
 clear hq
 replace hA := hA.below b
 replace hB := hB.below b
 replace qa := qa.below b
 replace qb := qb.below b
 replace qR := qR.below b
 replace hb := bstep hb b
 replace hsz := Nat.lt_of_lt_of_le hsz b.size
 clear b
 obtain ⟨cqa0, cqa1, cqa2⟩ := qa.cells
 obtain ⟨cqb0, cqb1, cqb2⟩ := qb.cells
 obtain ⟨cqR0, cqR1, cqR2⟩ := qR.cells
 go_wp2_with fail
 clear cqa0 cqa1 cqa2 cqb0 cqb1 cqb2 cqR0 cqR1 cqR2
 have hq := small3 w4
 rw [← HZ.out] at hq
 have hszz := hsz
 refine (hq).mono ?_
 rintro e w5 ⟨v, rfl, hv, b⟩
 clear hq
 obtain ⟨m, d, rfl, hm, hd, hap⟩ := hv
 obtain ⟨mo, ml, mc, rfl⟩ := hm.sl
 obtain ⟨mO, mL, mC, rfl⟩ := hd.sl
 replace hA := hA.below b
 replace hB := hB.below b
 replace qa := qa.below b
 replace qb := qb.below b
 replace qR := qR.below b
 replace hb := bstep hb b
 replace hsz := Nat.lt_of_lt_of_le hsz b.size
 clear b
 have qq := qR
 have HE : Hid (REnd w Z (.returned (.agg #[.bool (decide (Z.num < 0)), .slice mo ml mc, .slice mO mL mC])) (((w5.setCell ⟨g + 1 + 1, 0, none⟩ (.bool (decide (Z.num < 0)))).setCell ⟨g + 1 + 1, 1, none⟩ (.slice mo ml mc)).setCell ⟨g + 1 + 1, 2, none⟩ (.slice mO mL mC))) := rat_done rfl (by rw [HG.out]; omega) hm hd hap hszz (hb)
 have HW : Hid (QCell (((w5.setCell ⟨g + 1 + 1, 0, none⟩ (.bool (decide (Z.num < 0)))).setCell ⟨g + 1 + 1, 1, none⟩ (.slice mo ml mc)).setCell ⟨g + 1 + 1, 2, none⟩ (.slice mO mL mC)) (g + 1 + 1) (decide (Z.num < 0)) (.slice mo ml mc) (.slice mO mL mC)) := qq.write _ _ _
 obtain ⟨y0, y1, y2⟩ := qq.cells
 have f0 := qq.thaw 0
 have f1 := qq.thaw 1
 have f2 := qq.thaw 2
 generalize decide (Z.num < 0) = bb at *
 clear qq hap
 clear hb hsz hszz hm hd qa qb qR hA hB
 go_wp2_with fail
 (try simp only [Exit.inBlock, Exit.then])
 exact bodyPost_ret (results_ct (p := 4) (u := 5) rfl _ _ (g + 1 + 1) 27 _ (0, 0) _ rfl HW.out Tryz.underlying27 rfl (by kernel_rfl)) rfl HE.out.t
theorem RSz.neg9 {x : Rat} {L : Nat} (h : RSz x L) : RSz (-x) L := ⟨by rw [Rat.neg_num]; exact h.num.neg, by rw [Rat.neg_den]; exact h.den⟩
theorem cmpQ_pp9 {x y : Rat} : 0 < cmpQ x y ↔ y.num * x.den < x.num * y.den := by
 unfold cmpQ cmpZ
 split
 · constructor <;> intro h <;> first | omega | (exact absurd h (by decide))
 ·
  split
  · constructor <;> intro h <;> first | omega | (exact absurd h (by decide))
  · constructor <;> intro h <;> first | omega | decide
theorem rsimp_neg {w : World} {va vb : Value} {a b : Rat} (hA : RQ w va a) (hB : RQ w vb b) (hc : cmpQ a b ≤ 0) (hr : b.num < 0) : Calls Tryz.prog 13 #[va, vb] w fun e w' => RTEnd w (-sQ (-b) (-a)) e w' := by
 obtain ⟨na, ao, al, ac, aO, aL, aC, rfl⟩ := hA.see
 obtain ⟨nb, bo, bl, bc, bO, bL, bC, rfl⟩ := hB.see
 have HC : Hid (cmpQ a b ≤ 0) := hc
 have HU : Hid (UpTo (-b) (-a)) := UpTo.neg (cmpQ_le (by omega)) hr
 have HCN : Hid (cmpQ (-b) (-a) ≤ 0) := by have h := HU.out.le; have h2 := cmpQ_pp9 (x := -b) (y := -a); show _ ≤ _; omega
 have hal : a.num < 0 := by have h := HU.out.pos2; rw [Rat.neg_num] at h; omega
 have H1 : Hid (sgnQ a ≤ 0 ∧ sgnQ b < 0) := ⟨by have := sgn_neg (x := a); omega, sgn_neg.2 hr⟩
 have HS : Hid (RSz (-b) 40 ∧ RSz (-a) 40 ∧ RSz (sQ (-b) (-a)) 40) := ⟨hB.sz.neg9, hA.sz.neg9, HU.out.sz hB.sz.neg9⟩
 obtain ⟨X, hX⟩ : ∃ X, X = sQ (-b) (-a) := ⟨_, rfl⟩
 have HX : Hid (sQ (-b) (-a) = X) := hX.symm
 rw [← hX] at HS ⊢
 obtain ⟨Z, hZ⟩ : ∃ Z, Z = -X := ⟨_, rfl⟩
 rw [← hZ]
 have HZ : Hid (-X = Z) := hZ.symm
 clear hc hr hal hX hZ
 obtain ⟨W1, hW1⟩ : ∃ W1, W1 = ((w.alloc (.cells #[.bool na, .slice ao al ac, .slice aO aL aC] 27)).alloc (.cells #[.bool nb, .slice bo bl bc, .slice bO bL bC] 27)).alloc (.cells #[.bool false, .slice none 0 0, .slice none 0 0] 27) := ⟨_, rfl⟩
 have qa : QCell W1 (w.heap.size) na (.slice ao al ac) (.slice aO aL aC) := by rw [hW1]; exact (qcell_step (qcell_step (qcell_new _ (by simp))))
 have qb : QCell W1 (w.heap.size + 1) nb (.slice bo bl bc) (.slice bO bL bC) := by rw [hW1]; exact (qcell_step (qcell_new _ (by simp)))
 have qR : QCell W1 (w.heap.size + 1 + 1) false (.slice none 0 0) (.slice none 0 0) := by rw [hW1]; exact (qcell_new _ (by simp))
 have hb : Below w.heap.size w W1 := by rw [hW1]; exact bstep (bstep (belowA w _) (belowA _ _)) (belowA _ _)
 have hsz : w.heap.size + 1 + 1 < W1.heap.size := by rw [hW1]; simp
 replace hA := hA.below hb
 replace hB := hB.below hb
 have HW1 : Hid (W1 = ((w.alloc (.cells #[.bool na, .slice ao al ac, .slice aO aL aC] 27)).alloc (.cells #[.bool nb, .slice bo bl bc, .slice bO bL bC] 27)).alloc (.cells #[.bool false, .slice none 0 0, .slice none 0 0] 27)) := hW1
 clear hW1
 go_enter Tryz.func13, Tryz.ntmps13
 go_wp2_with fail
 rw [← HW1.out]
 clear HW1
 obtain ⟨g, hg⟩ : ∃ g, g = w.heap.size := ⟨_, rfl⟩
 rw [← hg] at qa qb qR hsz ⊢
 have HG : Hid (g = w.heap.size) := hg
 clear hg
 obtain ⟨cqa0, cqa1, cqa2⟩ := qa.cells
 obtain ⟨cqb0, cqb1, cqb2⟩ := qb.cells
 obtain ⟨cqR0, cqR1, cqR2⟩ := qR.cells
 go_wp2_with fail
 clear cqa0 cqa1 cqa2 cqb0 cqb1 cqb2 cqR0 cqR1 cqR2
 have hq := qCmp hA hB
 obtain ⟨c, hc⟩ : ∃ c, c = cmpQ a b := ⟨_, rfl⟩
 have hc0 : ¬ 0 < c := by rw [hc]; have := HC.out; omega
 rw [← hc] at hq
 clear hc
 refine (hq).mono ?_
 rintro e w2 ⟨rfl, b⟩
 clear hq
 replace hA := hA.below b
 replace hB := hB.below b
 replace qa := qa.below b
 replace qb := qb.below b
 replace qR := qR.below b
 replace hb := bstep hb b
 replace hsz := Nat.lt_of_lt_of_le hsz b.size
 clear b
 obtain ⟨cqa0, cqa1, cqa2⟩ := qa.cells
 obtain ⟨cqb0, cqb1, cqb2⟩ := qb.cells
 obtain ⟨cqR0, cqR1, cqR2⟩ := qR.cells
 go_wp2_with fail
 clear cqa0 cqa1 cqa2 cqb0 cqb1 cqb2 cqR0 cqR1 cqR2
 have hq := qSign hA
 obtain ⟨sa, hs⟩ : ∃ s, s = sgnQ a := ⟨_, rfl⟩
 have hsa : sa ≤ 0 := by rw [hs]; have := H1.out; omega
 rw [← hs] at hq
 clear hs
 refine (hq).mono ?_
 rintro e w3 ⟨rfl, b⟩
 clear hq
 replace hA := hA.below b
 replace hB := hB.below b
 replace qa := qa.below b
 replace qb := qb.below b
 replace qR := qR.below b
 replace hb := bstep hb b
 replace hsz := Nat.lt_of_lt_of_le hsz b.size
 clear b
 obtain ⟨cqa0, cqa1, cqa2⟩ := qa.cells
 obtain ⟨cqb0, cqb1, cqb2⟩ := qb.cells
 obtain ⟨cqR0, cqR1, cqR2⟩ := qR.cells
 go_wp2_with fail
 clear cqa0 cqa1 cqa2 cqb0 cqb1 cqb2 cqR0 cqR1 cqR2
 have hq := qSign hB
 obtain ⟨sb, hs⟩ : ∃ s, s = sgnQ b := ⟨_, rfl⟩
 have hsb : ¬ 0 ≤ sb := by rw [hs]; have := H1.out; omega
 rw [← hs] at hq
 clear hs
 refine (hq).mono ?_
 rintro e w4 ⟨rfl, b⟩
 clear hq
 replace hA := hA.below b
 replace hB := hB.below b
 replace qa := qa.below b
 replace qb := qb.below b
 replace qR := qR.below b
 replace hb := bstep hb b
 replace hsz := Nat.lt_of_lt_of_le hsz b.size
 clear b
 obtain ⟨cqa0, cqa1, cqa2⟩ := qa.cells
 obtain ⟨cqb0, cqb1, cqb2⟩ := qb.cells
 obtain ⟨cqR0, cqR1, cqR2⟩ := qR.cells
 go_wp2_with fail
 clear cqa0 cqa1 cqa2 cqb0 cqb1 cqb2 cqR0 cqR1 cqR2
 have hq := qSign hB
 obtain ⟨sc, hs⟩ : ∃ s, s = sgnQ b := ⟨_, rfl⟩
 have hsc : sc < 0 := by rw [hs]; have := H1.out; omega
 rw [← hs] at hq
 clear hs
 refine (hq).mono ?_
 rintro e w5 ⟨rfl, b⟩
 clear hq
 replace hA := hA.below b
 replace hB := hB.below b
 replace qa := qa.below b
 replace qb := qb.below b
 replace qR := qR.below b
 replace hb := bstep hb b
 replace hsz := Nat.lt_of_lt_of_le hsz b.size
 clear b
 obtain ⟨cqa0, cqa1, cqa2⟩ := qa.cells
 obtain ⟨cqb0, cqb1, cqb2⟩ := qb.cells
 obtain ⟨cqR0, cqR1, cqR2⟩ := qR.cells
 go_wp2_with fail
 clear cqa0 cqa1 cqa2 cqb0 cqb1 cqb2 cqR0 cqR1 cqR2
 go_cut [6, 7] (fun t6 t7 wx => ∃ v n o l c O L C, t6 = .pointer (some ⟨v, 0, none⟩) ∧ t7 = .int .i64 0 ∧ QCell wx v n (.slice o l c) (.slice O L C) ∧ RQ wx (.agg #[.bool n, .slice o l c, .slice O L C]) X ∧ Below w5.heap.size w5 wx)
 case first =>
  have KEEP : ∀ u, Below w5.heap.size w5 u → L2.AllL u [(0, fun w' => w'.cell? ⟨g + 1, 0, none⟩ = some (.bool nb) ∧ w'.cell? ⟨g + 1, 1, none⟩ = some (.slice bo bl bc) ∧ w'.cell? ⟨g + 1, 2, none⟩ = some (.slice bO bL bC)), (2, fun w' => w'.cell? ⟨g, 0, none⟩ = some (.bool na) ∧ w'.cell? ⟨g, 1, none⟩ = some (.slice ao al ac) ∧ w'.cell? ⟨g, 2, none⟩ = some (.slice aO aL aC))] := fun u B => ⟨(qb.below B).cells, (qa.below B).cells, trivial⟩
  refine L2.region_late [(0, fun w' => w'.cell? ⟨g + 1, 0, none⟩ = some (.bool nb) ∧ w'.cell? ⟨g + 1, 1, none⟩ = some (.slice bo bl bc) ∧ w'.cell? ⟨g + 1, 2, none⟩ = some (.slice bO bL bC)), (2, fun w' => w'.cell? ⟨g, 0, none⟩ = some (.bool na) ∧ w'.cell? ⟨g, 1, none⟩ = some (.slice ao al ac) ∧ w'.cell? ⟨g, 2, none⟩ = some (.slice aO aL aC))] (by kernel_rfl) ?_
  have B0 : Below w5.heap.size w5 w5.drew := below_drew' _
  obtain ⟨w0, hw0⟩ : ∃ u, u = w5.drew := ⟨_, rfl⟩
  rw [← hw0] at B0 ⊢
  clear hw0
  have hHeld := KEEP _ B0
  have khA := hA.below B0
  have khB := hB.below B0
  refine L2.late_tk 0 (v := .agg #[.bool nb, .slice bo bl bc, .slice bO bL bC]) rfl (List.Mem.head _) (Or.inl ⟨by rfl, ?_⟩) hHeld ?_
  · (intro u hu; (try dsimp only at hu); go_split_ands; go_simp)
  try simp only [pu1, pu2, pu3, pu4]
  refine L2.late_tk 2 (v := .agg #[.bool na, .slice ao al ac, .slice aO aL aC]) rfl (List.Mem.tail _ (List.Mem.head _)) (Or.inl ⟨by rfl, ?_⟩) hHeld ?_
  · (intro u hu; (try dsimp only at hu); go_split_ands; go_simp)
  try simp only [pu1, pu2, pu3, pu4]
  refine L2.late_two 1 8 (by kernel_rfl) rfl rfl (fun K hK => ?t23) (fun K hK => ?t24)
  case' t23 =>
   go_simp
   refine (qNeg khB).mono ?_
   rintro e w6 ⟨v, rfl, hv9, b6⟩
   clear khB
   have r1 := hv9.rq HS.out.1
   obtain ⟨m, d9, rfl, hm, hd9, hap⟩ := id hv9
   obtain ⟨io, il, ic, rfl⟩ := hm.sl
   obtain ⟨iO, iL, iC, rfl⟩ := hd9.sl
   clear hm hd9 hap
   clear hv9
   generalize decide ((-b).num < 0) = ni at *
   replace khA := khA.below b6
   have B6 : Below w5.heap.size w5 w6 := bstep B0 b6
   clear b6
   replace hHeld := KEEP _ B6
   go_wp2_with fail
   refine hK.out _ _ (L2.AllL.kept hHeld) ?_
   clear hK K
   try simp only [pu1, pu2, pu3, pu4]
   refine L2.late_two 3 8 (by kernel_rfl) rfl rfl (fun K hK => ?t17) (fun K hK => ?t18)
   case' t17 =>
    go_simp
    refine (qNeg khA).mono ?_
    rintro e w7 ⟨v, rfl, hv9, b7⟩
    clear khA
    have r2 := hv9.rq HS.out.2.1
    obtain ⟨m, d9, rfl, hm, hd9, hap⟩ := id hv9
    obtain ⟨jo, jl, jc, rfl⟩ := hm.sl
    obtain ⟨jO, jL, jC, rfl⟩ := hd9.sl
    clear hm hd9 hap
    clear hv9
    generalize decide ((-a).num < 0) = nj at *
    replace r1 := r1.below b7
    have B7 : Below w5.heap.size w5 w7 := bstep B6 b7
    clear b7
    replace hHeld := KEEP _ B7
    go_wp2_with fail
    refine hK.out _ _ (L2.AllL.kept hHeld) ?_
    clear hK K
    try simp only [pu1, pu2, pu3, pu4]
    refine L2.late_two 4 8 (by kernel_rfl) rfl rfl (fun K hK => ?t12) (fun K hK => ?t13)
    case' t12 =>
     go_simp
     have hq := rsimp_pos r1 r2 HCN.out HU.out.pos
     rw [HX.out] at hq
     refine hq.mono ?_
     rintro e w8 ⟨v, rfl, hv9, b8⟩
     clear hq r1 r2
     have rT := hv9.rq HS.out.2.2
     obtain ⟨m, d9, rfl, hm, hd9, hap⟩ := id hv9
     obtain ⟨ko, kl, kc, rfl⟩ := hm.sl
     obtain ⟨kO, kL, kC, rfl⟩ := hd9.sl
     clear hm hd9 hap
     clear hv9
     generalize decide (X.num < 0) = nk at *
     have B8 : Below w5.heap.size w5 w8 := bstep B7 b8
     clear b8
     replace hHeld := KEEP _ B8
     go_wp2_with fail
     refine hK.out _ _ (L2.AllL.kept hHeld) ?_
     clear hK K
     try simp only [pu1, pu2, pu3, pu4]
     refine L2.late_fr 5 (v := .tuple #[.agg #[.bool nk, .slice ko kl kc, .slice kO kL kC], .int .i64 0]) rfl (Or.inl ⟨by rfl, ?_⟩) hHeld ?_
     · (intro u _; go_simp)
     try simp only [pu1, pu2, pu3, pu4]
     refine L2.late_fr 6 (v := .agg #[.bool nk, .slice ko kl kc, .slice kO kL kC]) rfl (Or.inl ⟨by rfl, ?_⟩) hHeld ?_
     · (intro u _; go_simp)
     try simp only [pu1, pu2, pu3, pu4]
     refine L2.late_fr 7 (v := .int .i64 0) rfl (Or.inl ⟨by rfl, ?_⟩) hHeld ?_
     · (intro u _; go_simp)
     try simp only [pu1, pu2, pu3, pu4]
     refine L2.late_st 8 rfl (fun K hK => ?_)
     go_simp
     obtain ⟨w9, vx, hw, hv, pvx, b9, B9⟩ := new_pr B8
     rw [hw, hv]
     clear hw hv
     replace rT := rT.below b9
     clear b9
     replace hHeld := KEEP _ B9
     refine hK.out _ _ (L2.AllL.kept hHeld) ?_
     clear hK K
     try simp only [pu1, pu2, pu3, pu4]
     have Bz := B9
     obtain ⟨wl, rfl⟩ : ∃ u, u = w9 := ⟨_, rfl⟩
    case' t13 =>
     go_simp
     obtain ⟨w10, vx, hw, hv, pvx, b10, B10⟩ := new_pr B7
     rw [hw, hv]
     clear hw hv
     replace r1 := r1.below b10
     replace r2 := r2.below b10
     clear b10
     replace hHeld := KEEP _ B10
     refine hK.out _ _ (L2.AllL.kept hHeld) ?_
     clear hK K
     try simp only [pu1, pu2, pu3, pu4]
     refine L2.late_st 4 rfl (fun K hK => ?_)
     go_simp
     have hq := rsimp_pos r1 r2 HCN.out HU.out.pos
     rw [HX.out] at hq
     refine hq.mono ?_
     rintro e w11 ⟨v, rfl, hv9, b11⟩
     clear hq r1 r2
     have rT := hv9.rq HS.out.2.2
     obtain ⟨m, d9, rfl, hm, hd9, hap⟩ := id hv9
     obtain ⟨ko, kl, kc, rfl⟩ := hm.sl
     obtain ⟨kO, kL, kC, rfl⟩ := hd9.sl
     clear hm hd9 hap
     clear hv9
     generalize decide (X.num < 0) = nk at *
     replace pvx := pvx.below b11
     have B11 : Below w5.heap.size w5 w11 := bstep B10 b11
     clear b11
     replace hHeld := KEEP _ B11
     go_wp2_with fail
     refine hK.out _ _ (L2.AllL.kept hHeld) ?_
     clear hK K
     try simp only [pu1, pu2, pu3, pu4]
     refine L2.late_fr 5 (v := .tuple #[.agg #[.bool nk, .slice ko kl kc, .slice kO kL kC], .int .i64 0]) rfl (Or.inl ⟨by rfl, ?_⟩) hHeld ?_
     · (intro u _; go_simp)
     try simp only [pu1, pu2, pu3, pu4]
     refine L2.late_fr 6 (v := .agg #[.bool nk, .slice ko kl kc, .slice kO kL kC]) rfl (Or.inl ⟨by rfl, ?_⟩) hHeld ?_
     · (intro u _; go_simp)
     try simp only [pu1, pu2, pu3, pu4]
     refine L2.late_fr 7 (v := .int .i64 0) rfl (Or.inl ⟨by rfl, ?_⟩) hHeld ?_
     · (intro u _; go_simp)
     try simp only [pu1, pu2, pu3, pu4]
     have Bz := B11
     obtain ⟨wl, rfl⟩ : ∃ u, u = w11 := ⟨_, rfl⟩
   case' t18 =>
    go_simp
    obtain ⟨w14, vx, hw, hv, pvx, b14, B14⟩ := new_pr B6
    rw [hw, hv]
    clear hw hv
    replace khA := khA.below b14
    replace r1 := r1.below b14
    clear b14
    replace hHeld := KEEP _ B14
    refine hK.out _ _ (L2.AllL.kept hHeld) ?_
    clear hK K
    try simp only [pu1, pu2, pu3, pu4]
    refine L2.late_st 3 rfl (fun K hK => ?_)
    go_simp
    refine (qNeg khA).mono ?_
    rintro e w15 ⟨v, rfl, hv9, b15⟩
    clear khA
    have r2 := hv9.rq HS.out.2.1
    obtain ⟨m, d9, rfl, hm, hd9, hap⟩ := id hv9
    obtain ⟨jo, jl, jc, rfl⟩ := hm.sl
    obtain ⟨jO, jL, jC, rfl⟩ := hd9.sl
    clear hm hd9 hap
    clear hv9
    generalize decide ((-a).num < 0) = nj at *
    replace r1 := r1.below b15
    replace pvx := pvx.below b15
    have B15 : Below w5.heap.size w5 w15 := bstep B14 b15
    clear b15
    replace hHeld := KEEP _ B15
    go_wp2_with fail
    refine hK.out _ _ (L2.AllL.kept hHeld) ?_
    clear hK K
    try simp only [pu1, pu2, pu3, pu4]
    refine L2.late_st 4 rfl (fun K hK => ?_)
    go_simp
    have hq := rsimp_pos r1 r2 HCN.out HU.out.pos
    rw [HX.out] at hq
    refine hq.mono ?_
    rintro e w16 ⟨v, rfl, hv9, b16⟩
    clear hq r1 r2
    have rT := hv9.rq HS.out.2.2
    obtain ⟨m, d9, rfl, hm, hd9, hap⟩ := id hv9
    obtain ⟨ko, kl, kc, rfl⟩ := hm.sl
    obtain ⟨kO, kL, kC, rfl⟩ := hd9.sl
    clear hm hd9 hap
    clear hv9
    generalize decide (X.num < 0) = nk at *
    replace pvx := pvx.below b16
    have B16 : Below w5.heap.size w5 w16 := bstep B15 b16
    clear b16
    replace hHeld := KEEP _ B16
    go_wp2_with fail
    refine hK.out _ _ (L2.AllL.kept hHeld) ?_
    clear hK K
    try simp only [pu1, pu2, pu3, pu4]
    refine L2.late_fr 5 (v := .tuple #[.agg #[.bool nk, .slice ko kl kc, .slice kO kL kC], .int .i64 0]) rfl (Or.inl ⟨by rfl, ?_⟩) hHeld ?_
    · (intro u _; go_simp)
    try simp only [pu1, pu2, pu3, pu4]
    refine L2.late_fr 6 (v := .agg #[.bool nk, .slice ko kl kc, .slice kO kL kC]) rfl (Or.inl ⟨by rfl, ?_⟩) hHeld ?_
    · (intro u _; go_simp)
    try simp only [pu1, pu2, pu3, pu4]
    refine L2.late_fr 7 (v := .int .i64 0) rfl (Or.inl ⟨by rfl, ?_⟩) hHeld ?_
    · (intro u _; go_simp)
    try simp only [pu1, pu2, pu3, pu4]
    have Bz := B16
    obtain ⟨wl, rfl⟩ : ∃ u, u = w16 := ⟨_, rfl⟩
  case' t24 =>
   go_simp
   obtain ⟨w19, vx, hw, hv, pvx, b19, B19⟩ := new_pr B0
   rw [hw, hv]
   clear hw hv
   replace khA := khA.below b19
   replace khB := khB.below b19
   clear b19
   replace hHeld := KEEP _ B19
   refine hK.out _ _ (L2.AllL.kept hHeld) ?_
   clear hK K
   try simp only [pu1, pu2, pu3, pu4]
   refine L2.late_st 1 rfl (fun K hK => ?_)
   go_simp
   refine (qNeg khB).mono ?_
   rintro e w20 ⟨v, rfl, hv9, b20⟩
   clear khB
   have r1 := hv9.rq HS.out.1
   obtain ⟨m, d9, rfl, hm, hd9, hap⟩ := id hv9
   obtain ⟨io, il, ic, rfl⟩ := hm.sl
   obtain ⟨iO, iL, iC, rfl⟩ := hd9.sl
   clear hm hd9 hap
   clear hv9
   generalize decide ((-b).num < 0) = ni at *
   replace khA := khA.below b20
   replace pvx := pvx.below b20
   have B20 : Below w5.heap.size w5 w20 := bstep B19 b20
   clear b20
   replace hHeld := KEEP _ B20
   go_wp2_with fail
   refine hK.out _ _ (L2.AllL.kept hHeld) ?_
   clear hK K
   try simp only [pu1, pu2, pu3, pu4]
   refine L2.late_st 3 rfl (fun K hK => ?_)
   go_simp
   refine (qNeg khA).mono ?_
   rintro e w21 ⟨v, rfl, hv9, b21⟩
   clear khA
   have r2 := hv9.rq HS.out.2.1
   obtain ⟨m, d9, rfl, hm, hd9, hap⟩ := id hv9
   obtain ⟨jo, jl, jc, rfl⟩ := hm.sl
   obtain ⟨jO, jL, jC, rfl⟩ := hd9.sl
   clear hm hd9 hap
   clear hv9
   generalize decide ((-a).num < 0) = nj at *
   replace r1 := r1.below b21
   replace pvx := pvx.below b21
   have B21 : Below w5.heap.size w5 w21 := bstep B20 b21
   clear b21
   replace hHeld := KEEP _ B21
   go_wp2_with fail
   refine hK.out _ _ (L2.AllL.kept hHeld) ?_
   clear hK K
   try simp only [pu1, pu2, pu3, pu4]
   refine L2.late_st 4 rfl (fun K hK => ?_)
   go_simp
   have hq := rsimp_pos r1 r2 HCN.out HU.out.pos
   rw [HX.out] at hq
   refine hq.mono ?_
   rintro e w22 ⟨v, rfl, hv9, b22⟩
   clear hq r1 r2
   have rT := hv9.rq HS.out.2.2
   obtain ⟨m, d9, rfl, hm, hd9, hap⟩ := id hv9
   obtain ⟨ko, kl, kc, rfl⟩ := hm.sl
   obtain ⟨kO, kL, kC, rfl⟩ := hd9.sl
   clear hm hd9 hap
   clear hv9
   generalize decide (X.num < 0) = nk at *
   replace pvx := pvx.below b22
   have B22 : Below w5.heap.size w5 w22 := bstep B21 b22
   clear b22
   replace hHeld := KEEP _ B22
   go_wp2_with fail
   refine hK.out _ _ (L2.AllL.kept hHeld) ?_
   clear hK K
   try simp only [pu1, pu2, pu3, pu4]
   refine L2.late_fr 5 (v := .tuple #[.agg #[.bool nk, .slice ko kl kc, .slice kO kL kC], .int .i64 0]) rfl (Or.inl ⟨by rfl, ?_⟩) hHeld ?_
   · (intro u _; go_simp)
   try simp only [pu1, pu2, pu3, pu4]
   refine L2.late_fr 6 (v := .agg #[.bool nk, .slice ko kl kc, .slice kO kL kC]) rfl (Or.inl ⟨by rfl, ?_⟩) hHeld ?_
   · (intro u _; go_simp)
   try simp only [pu1, pu2, pu3, pu4]
   refine L2.late_fr 7 (v := .int .i64 0) rfl (Or.inl ⟨by rfl, ?_⟩) hHeld ?_
   · (intro u _; go_simp)
   try simp only [pu1, pu2, pu3, pu4]
   have Bz := B22
   obtain ⟨wl, rfl⟩ : ∃ u, u = w22 := ⟨_, rfl⟩
  all_goals
    have HPQ : Hid _ := pr_end pvx rT Bz
    obtain ⟨y0, y1, y2⟩ := pvx.c.cells
    have f0 := pvx.c.thaw 0
    have f1 := pvx.c.thaw 1
    have f2 := pvx.c.thaw 2
    clear pvx rT Bz KEEP
    refine L2.late_st 9 rfl (fun K hK => ?_)
    go_simp
    refine hK.out _ _ ⟨kpt 1, kpt 3, trivial⟩ ?_
    clear hK K
    try simp only [pu1, pu2, pu3, pu4]
    refine L2.late_st 10 rfl (fun K hK => ?_)
    go_simp
    refine hK.out _ _ ⟨kpt 1, kpt 3, trivial⟩ ?_
    clear hK K
    try simp only [pu1, pu2, pu3, pu4]
    refine L2.late_done (by kernel_rfl) ?_ _
    clear hHeld y0 y1 y2 f0 f1 f2
    go_wp2_with fail
    go_meet
    exact ⟨_, _, _, _, _, _, _, _, rfl, rfl, HPQ.out⟩
 case rest =>
  obtain ⟨vx, nx, xo, xl, xc, xO, xL, xC, rfl, rfl, qx, rx, b⟩ := hcut
  replace hA := hA.below b
  replace hB := hB.below b
  replace qa := qa.below b
  replace qb := qb.below b
  replace qR := qR.below b
  replace hb := bstep hb b
  replace hsz := Nat.lt_of_lt_of_le hsz b.size
  clear b
  obtain ⟨cqa0, cqa1, cqa2⟩ := qa.cells
  obtain ⟨cqb0, cqb1, cqb2⟩ := qb.cells
  obtain ⟨cqR0, cqR1, cqR2⟩ := qR.cells
  obtain ⟨cqx0, cqx1, cqx2⟩ := qx.cells
  go_wp2_with fail
  clear cqa0 cqa1 cqa2 cqb0 cqb1 cqb2 cqR0 cqR1 cqR2 cqx0 cqx1 cqx2
  have hq := qNeg rx
  rw [HZ.out] at hq
  have hszz := hsz
  refine (hq).mono ?_
  rintro e w125 ⟨v, rfl, hv, b⟩
  clear hq
  obtain ⟨m, d, rfl, hm, hd, hap⟩ := hv
  obtain ⟨mo, ml, mc, rfl⟩ := hm.sl
  obtain ⟨mO, mL, mC, rfl⟩ := hd.sl
  replace hA := hA.below b
  replace hB := hB.below b
  replace rx := rx.below b
  replace qa := qa.below b
  replace qb := qb.below b
  replace qR := qR.below b
  replace qx := qx.below b
  replace hb := bstep hb b
  replace hsz := Nat.lt_of_lt_of_le hsz b.size
  clear b
  have qq := qR
  have HE : Hid (REnd w Z (.returned (.agg #[.bool (decide (Z.num < 0)), .slice mo ml mc, .slice mO mL mC])) (((w125.setCell ⟨g + 1 + 1, 0, none⟩ (.bool (decide (Z.num < 0)))).setCell ⟨g + 1 + 1, 1, none⟩ (.slice mo ml mc)).setCell ⟨g + 1 + 1, 2, none⟩ (.slice mO mL mC))) := rat_done rfl (by rw [HG.out]; omega) hm hd hap hszz (hb)
  have HW : Hid (QCell (((w125.setCell ⟨g + 1 + 1, 0, none⟩ (.bool (decide (Z.num < 0)))).setCell ⟨g + 1 + 1, 1, none⟩ (.slice mo ml mc)).setCell ⟨g + 1 + 1, 2, none⟩ (.slice mO mL mC)) (g + 1 + 1) (decide (Z.num < 0)) (.slice mo ml mc) (.slice mO mL mC)) := qq.write _ _ _
  obtain ⟨y0, y1, y2⟩ := qq.cells
  have f0 := qq.thaw 0
  have f1 := qq.thaw 1
  have f2 := qq.thaw 2
  generalize decide (Z.num < 0) = bb at *
  clear qq hap
  clear hb hsz hszz hm hd qa qb qR qx hA hB rx
  go_wp2_with fail
  (try simp only [Exit.inBlock, Exit.then])
  exact bodyPost_ret (results_ct (p := 4) (u := 5) rfl _ _ (g + 1 + 1) 27 _ (0, 0) _ rfl HW.out Tryz.underlying27 rfl (by kernel_rfl)) rfl HE.out.t
theorem rsimplest {w : World} {va vb : Value} {a b : Rat} (hA : RQ w va a) (hB : RQ w vb b) (hc : cmpQ a b ≤ 0) : Calls Tryz.prog 13 #[va, vb] w fun e w' => RTEnd w (spQ a b) e w' := by
 unfold spQ
 split
 ·
  rename_i hp
  exact rsimp_pos hA hB hc hp
 ·
  rename_i hp
  split
  ·
   rename_i hr
   exact rsimp_neg hA hB hc hr
  ·
   rename_i hr
   exact rsimp_zero hA hB hc hp hr 0 rfl

theorem lift_le {a b c d : Nat} {x y : Int} (hx : x = a) (hy : y = c) (h : x * (d : Int) ≤ y * (b : Int)) : a * d ≤ c * b := by
 subst hx hy
 exact_mod_cast h
theorem UpTo.least {a b : Rat} (h : UpTo a b) {k : Int} {d : Nat} (hd : 0 < d) (h1 : a.num * d ≤ k * a.den) (h2 : k * b.den ≤ b.num * d) : (sQ a b).den ≤ d ∧ (sQ a b).num.natAbs ≤ k.natAbs := by
 obtain ⟨p1, p2⟩ := h.parts
 have u1 := h.pos
 have u2 := h.pos2
 have hk : 0 < k := by
  have h3 : 0 < a.num * (d : Int) := Int.mul_pos u1 (by omega)
  exact Int.pos_of_mul_pos_left (Int.lt_of_lt_of_le h3 h1) (by have := a.den_pos; omega)
 have l := h.simp.least k.natAbs d hd (lift_le (x := a.num) (y := k) (by omega) (by omega) h1) (lift_le (x := k) (y := b.num) (by omega) (by omega) h2)
 rw [p1, p2, Int.natAbs_natCast]
 exact ⟨l.2, l.1⟩
theorem sp_least {a b : Rat} (hab : a.num * b.den ≤ b.num * a.den) {k : Int} {d : Nat} (hd : 0 < d) (h1 : a.num * d ≤ k * a.den) (h2 : k * b.den ≤ b.num * d) : (spQ a b).den ≤ d ∧ (spQ a b).num.natAbs ≤ k.natAbs := by
 unfold spQ
 split
 ·
  rename_i hp
  exact UpTo.least ⟨hp, hab⟩ hd h1 h2
 ·
  split
  ·
   rename_i hr
   have l := UpTo.least (UpTo.neg hab hr) (k := -k) hd (by rw [Rat.neg_num, Rat.neg_den, Int.neg_mul, Int.neg_mul]; omega) (by rw [Rat.neg_num, Rat.neg_den, Int.neg_mul, Int.neg_mul]; omega)
   rw [Rat.neg_num, Rat.neg_den, Int.natAbs_neg]
   rw [Int.natAbs_neg] at l
   exact l
  · exact ⟨hd, Nat.zero_le _⟩
theorem RSz.sp {a b : Rat} {L : Nat} (hab : a.num * b.den ≤ b.num * a.den) (ha : RSz a L) : RSz (spQ a b) L := by
 have l := sp_least hab (k := a.num) (d := a.den) a.den_pos (Int.le_refl _) hab
 exact ⟨ha.num.le l.2, ha.den.le (by rw [Int.natAbs_natCast, Int.natAbs_natCast]; exact l.1)⟩
open Go.RowKit
def zS (a b : Rat) : Bool := if 0 < cmpQ a b then false else decide ((spQ a b).num < 0)
def zE (a b : Rat) : Int := if 0 < cmpQ a b then 3 else 0
def zM (a b : Rat) : List Nat := if 0 < cmpQ a b then [] else lim (spQ a b).num.natAbs
def zD (a b : Rat) : List Nat := if 0 < cmpQ a b then [] else lim (spQ a b).den
theorem zx_no {w w' : World} {a b : Rat} {e : Ending} (hc : 0 < cmpQ a b) (h : RNo3 w e w') : TEx w (zS a b) (zE a b) (zM a b) (zD a b) e w' := by
 obtain ⟨rfl, hb⟩ := h
 have g1 : zS a b = false := if_pos hc
 have g2 : zM a b = [] := if_pos hc
 have g3 : zD a b = [] := if_pos hc
 have g4 : zE a b = 3 := if_pos hc
 rw [g1, g2, g3, g4]
 exact ⟨none, 0, none, 0, rfl, Own.of_nil _ _ _, Own.of_nil _ _ _, .inl rfl, hb⟩
theorem zx_yes {w w' : World} {a b : Rat} {e : Ending} (hc : ¬ 0 < cmpQ a b) (h : RTEnd w (spQ a b) e w') : TEx w (zS a b) (zE a b) (zM a b) (zD a b) e w' := by
 obtain ⟨v, rfl, ⟨m, d, rfl, h1, h2, h3⟩, hb⟩ := h
 have g1 : zS a b = decide ((spQ a b).num < 0) := if_neg hc
 have g2 : zM a b = lim (spQ a b).num.natAbs := if_neg hc
 have g3 : zD a b = lim (spQ a b).den := if_neg hc
 have g4 : zE a b = 0 := if_neg hc
 rw [g1, g2, g3, g4]
 obtain ⟨mo, ml, mc, rfl⟩ := h1.sl
 obtain ⟨dO, dL, dC, rfl⟩ := h2.sl
 have e1 := (num_len h1.num).1
 have e2 := (num_len h2.num).1
 subst e1
 subst e2
 exact ⟨mo, mc, dO, dC, rfl, h1, h2, h3, hb⟩
theorem aSimpF {w : World} {v u : Value} {p r : Int} {q k : Nat} (h : RV w v p q) (h' : RV w u r k) : Calls Tryz.prog 12 #[v, u] w fun e w' => TEx w (zS (rq p q) (rq r k)) (zE (rq p q) (rq r k)) (zM (rq p q) (rq r k)) (zD (rq p q) (rq r k)) e w' := by
 by_cases hc : 0 < cmpQ (rq p q) (rq r k)
 ·
  obtain ⟨n, ao, al, ac, bo, bl, bc, rfl, h1, h2⟩ := h
  obtain ⟨n', ao', al', ac', bo', bl', bc', rfl, h1', h2'⟩ := h'
  exact (simplest_no _ _ _ _ _ _ _ _ _ _ _ _ _ _ ⟨_, _, _, _, _, _, _, rfl, h1, h2⟩ ⟨_, _, _, _, _, _, _, rfl, h1', h2'⟩ hc).mono fun _ _ h => zx_no hc h
 · exact (simplestF h h' hc).mono fun _ _ h => zx_yes hc h
theorem aSimpR {w : World} {v u : Value} {p r : Int} {q k : Nat} (h : RV w v p q) (h' : RV w u r k) : Calls Tryz.prog 13 #[v, u] w fun e w' => TEx w (zS (rq p q) (rq r k)) (zE (rq p q) (rq r k)) (zM (rq p q) (rq r k)) (zD (rq p q) (rq r k)) e w' := by
 have hA : RQ w v (rq p q) := ⟨p, q, h, rfl⟩
 have hB : RQ w u (rq r k) := ⟨r, k, h', rfl⟩
 by_cases hc : 0 < cmpQ (rq p q) (rq r k)
 · exact (rsimp_no hA hB hc).mono fun _ _ h => zx_no hc h
 · exact (rsimplest hA hB (by omega)).mono fun _ _ h => zx_yes hc h
theorem ln_simp {w : World} {v u : Value} {p r : Int} {q k : Nat} (h : RV w v p q) (_ : RV w u r k) : (zM (rq p q) (rq r k)).length ≤ 81 ∧ (zD (rq p q) (rq r k)).length ≤ 81 := by
 have hA : RQ w v (rq p q) := ⟨p, q, h, rfl⟩
 unfold zM zD
 by_cases hc : 0 < cmpQ (rq p q) (rq r k)
 · rw [if_pos hc, if_pos hc]; exact ⟨by decide, by decide⟩
 ·
  rw [if_neg hc, if_neg hc]
  have hs := RSz.sp (cmpQ_le hc) hA.sz
  exact ⟨Nat.le_trans hs.num.len (by omega), Nat.le_trans (show _ ≤ _ from by have := hs.den.len; rwa [Int.natAbs_natCast] at this) (by omega)⟩
theorem apart_base9 {B : Nat} {w : World} {gs : List Value} {ys : Nat → List Nat} {v : Value} (hf : Fam B w gs ys) (hv : ∀ k, v.ownBlock = some k → k < B) : ∀ j, j < gs.length → (at_ gs j).ownBlock = none ∨ (at_ gs j).ownBlock ≠ v.ownBlock := by
 intro j hj
 cases h : (at_ gs j).ownBlock with
 | none => exact Or.inl rfl
 | some k =>
  refine Or.inr fun e => ?_
  have h1 := ((hf j hj).block k h).1
  have h2 := hv k e.symm
  omega
theorem QCell.bexS {B : Nat} {gs : List Value} {ys : Nat → List Nat} {w w' : World} {g : Nat} {n : Bool} {m d : Value} (h : QCell w g n m d) (hb : Bex gs w w') (hf : Fam B w gs ys) : QCell w' g n m d := by
 have h' : w.heap[g]? = some (.cells #[.bool n, m, d] 27 (0, 0)) := h
 show w'.heap[g]? = some (.cells #[.bool n, m, d] 27 (0, 0))
 rw [hb.block g (Array.getElem?_eq_some_iff.1 h').1 (fun j hj e => ?_)]
 · exact h'
 ·
  obtain ⟨o, l, c, hv⟩ := (hf j hj).sl
  have ho := hf j hj
  rw [hv] at ho e
  cases o with
  | none => cases e
  | some a =>
   obtain ⟨b, of, sp⟩ := a
   rcases ho.shape with ⟨hs, _⟩ | ⟨g2, cap, hs, _, _⟩
   · cases hs
   ·
    simp only [Value.slice.injEq, Option.some.injEq, Addr.mk.injEq] at hs
    obtain ⟨⟨rfl, rfl, rfl⟩, _, _⟩ := hs
    have eb : b = g := Option.some.inj e
    obtain ⟨_, _, cur, hh, _⟩ := ho.heap
    rw [eb, h'] at hh
    simp only [Option.some.injEq, Obj.cells.injEq] at hh
    exact absurd hh.2.1 (by decide)
theorem fracSimplest_top (na : Bool) (ao aO : Option Addr) (al ac aL aC : Nat) (xa ya : List Nat) (nb : Bool) (bo bO : Option Addr) (bl bc bL bC : Nat) (xb yb : List Nat) (w : World) (ua : Num w (.slice ao al ac) xa) (va : Num w (.slice aO aL aC) ya) (ub : Num w (.slice bo bl bc) xb) (vb : Num w (.slice bO bL bC) yb) :
  Calls Tryz.prog 4 #[.agg #[.bool na, .slice ao al ac, .slice aO aL aC], .agg #[.bool nb, .slice bo bl bc, .slice bO bL bC]] w fun e w' => e = .returned (.bool true) ∧ Below w.heap.size w w' := by
 have h1 := (num_len ua).1
 have h2 := (num_len va).1
 have ua2 := num_cut ua (k := min al 8) (Nat.min_le_left _ _)
 have va2 := num_cut va (k := min aL 8) (Nat.min_le_left _ _)
 have HLA : Hid ((xa.take (min al 8)).length ≤ 40) := by show _ ≤ _; rw [List.length_take]; omega
 have HLa : Hid ((ya.take (min aL 8)).length ≤ 40) := by show _ ≤ _; rw [List.length_take]; omega
 clear h1 h2
 have h1 := (num_len ub).1
 have h2 := (num_len vb).1
 have ub2 := num_cut ub (k := min bl 8) (Nat.min_le_left _ _)
 have vb2 := num_cut vb (k := min bL 8) (Nat.min_le_left _ _)
 have HLB : Hid ((xb.take (min bl 8)).length ≤ 40) := by show _ ≤ _; rw [List.length_take]; omega
 have HLb : Hid ((yb.take (min bL 8)).length ≤ 40) := by show _ ≤ _; rw [List.length_take]; omega
 clear h1 h2
 obtain ⟨W1, hW1⟩ : ∃ W1, W1 = (w.alloc (.cells #[.bool na, .slice ao al ac, .slice aO aL aC] 27)).alloc (.cells #[.bool nb, .slice bo bl bc, .slice bO bL bC] 27) := ⟨_, rfl⟩
 have qa : QCell W1 (w.heap.size) na (.slice ao al ac) (.slice aO aL aC) := by rw [hW1]; exact (qcell_step (qcell_new _ (by simp)))
 have qb : QCell W1 (w.heap.size + 1) nb (.slice bo bl bc) (.slice bO bL bC) := by rw [hW1]; exact (qcell_new _ (by simp))
 have hb : Below w.heap.size w W1 := by rw [hW1]; exact bstep (belowA w _) (belowA _ _)
 have hsz : w.heap.size + 1 < W1.heap.size := by rw [hW1]; simp
 have HW1 : Hid (W1 = (w.alloc (.cells #[.bool na, .slice ao al ac, .slice aO aL aC] 27)).alloc (.cells #[.bool nb, .slice bo bl bc, .slice bO bL bC] 27)) := hW1
 clear hW1
 go_enter Tryz.func4, Tryz.ntmps4
 go_wp2_with fail
 rw [← HW1.out]
 clear HW1
 obtain ⟨g, hg⟩ : ∃ g, g = w.heap.size := ⟨_, rfl⟩
 rw [← hg] at qa qb hsz ⊢
 have HG : Hid (g = w.heap.size) := hg
 clear hg
 refine (l_awake).mono ?_
 rintro e w2 ⟨rfl, b⟩
 replace qa := qa.below b
 replace qb := qb.below b
 replace hb := bstep hb b
 replace hsz := Nat.lt_of_lt_of_le hsz b.size
 clear b
 obtain ⟨cqa0, cqa1, cqa2⟩ := qa.cells
 obtain ⟨cqb0, cqb1, cqb2⟩ := qb.cells
 go_wp2_with fail
 clear cqa0 cqa1 cqa2 cqb0 cqb1 cqb2
 refine (c_cut na ao aO al ac aL aC 8 xa ya _ (ua.below (Nat.le_refl _) hb) (va.below (Nat.le_refl _) hb) (by decide)).mono ?_
 rintro e w3 ⟨rfl, b⟩
 replace qa := qa.below b
 replace qb := qb.below b
 replace hb := bstep hb b
 replace hsz := Nat.lt_of_lt_of_le hsz b.size
 clear b
 generalize min al 8 = al2 at *
 generalize xa.take al2 = xa2 at *
 generalize min aL 8 = aL2 at *
 generalize ya.take aL2 = ya2 at *
 obtain ⟨y0, y1, y2⟩ := qa.cells
 have f0 := qa.thaw 0
 have f1 := qa.thaw 1
 have f2 := qa.thaw 2
 obtain ⟨X4, hX4⟩ : ∃ X, X = (((w3.setCell ⟨g, 0, none⟩ (.bool na)).setCell ⟨g, 1, none⟩ (.slice ao al2 ac)).setCell ⟨g, 2, none⟩ (.slice aO aL2 aC)) := ⟨_, rfl⟩
 have qa_ : QCell X4 (g) na (.slice ao al2 ac) (.slice aO aL2 aC) := by rw [hX4]; exact qa.write _ _ _
 have qb_ : QCell X4 (g + 1) nb (.slice bo bl bc) (.slice bO bL bC) := by rw [hX4]; exact ((qb.other (by omega) _ _).other (by omega) _ _).other (by omega) _ _
 replace hb : Below w.heap.size w X4 := by rw [hX4]; exact iend3 hb (by rw [HG.out]; omega)
 replace hsz : g + 1 < X4.heap.size := by rw [hX4]; simpa [World.setCell] using hsz
 replace qa := qa_
 clear qa_
 have rqa0 : ((((w3.setCell ⟨g, 0, none⟩ (.bool na)).setCell ⟨g, 1, none⟩ (.slice ao al2 ac)).setCell ⟨g, 2, none⟩ (.slice aO aL2 aC))).cell? ⟨g, 0, none⟩ = some (.bool na) := by rw [← hX4]; exact qa.cells.1
 have rqa1 : ((((w3.setCell ⟨g, 0, none⟩ (.bool na)).setCell ⟨g, 1, none⟩ (.slice ao al2 ac)).setCell ⟨g, 2, none⟩ (.slice aO aL2 aC))).cell? ⟨g, 1, none⟩ = some (.slice ao al2 ac) := by rw [← hX4]; exact qa.cells.2.1
 have rqa2 : ((((w3.setCell ⟨g, 0, none⟩ (.bool na)).setCell ⟨g, 1, none⟩ (.slice ao al2 ac)).setCell ⟨g, 2, none⟩ (.slice aO aL2 aC))).cell? ⟨g, 2, none⟩ = some (.slice aO aL2 aC) := by rw [← hX4]; exact qa.cells.2.2
 replace qb := qb_
 clear qb_
 have rqb0 : ((((w3.setCell ⟨g, 0, none⟩ (.bool na)).setCell ⟨g, 1, none⟩ (.slice ao al2 ac)).setCell ⟨g, 2, none⟩ (.slice aO aL2 aC))).cell? ⟨g + 1, 0, none⟩ = some (.bool nb) := by rw [← hX4]; exact qb.cells.1
 have rqb1 : ((((w3.setCell ⟨g, 0, none⟩ (.bool na)).setCell ⟨g, 1, none⟩ (.slice ao al2 ac)).setCell ⟨g, 2, none⟩ (.slice aO aL2 aC))).cell? ⟨g + 1, 1, none⟩ = some (.slice bo bl bc) := by rw [← hX4]; exact qb.cells.2.1
 have rqb2 : ((((w3.setCell ⟨g, 0, none⟩ (.bool na)).setCell ⟨g, 1, none⟩ (.slice ao al2 ac)).setCell ⟨g, 2, none⟩ (.slice aO aL2 aC))).cell? ⟨g + 1, 2, none⟩ = some (.slice bO bL bC) := by rw [← hX4]; exact qb.cells.2.2
 have HX4 : Hid (X4 = (((w3.setCell ⟨g, 0, none⟩ (.bool na)).setCell ⟨g, 1, none⟩ (.slice ao al2 ac)).setCell ⟨g, 2, none⟩ (.slice aO aL2 aC))) := hX4
 clear hX4
 go_wp2_with fail
 rw [← HX4.out]
 clear HX4 y0 y1 y2 f0 f1 f2 rqa0 rqa1 rqa2 rqb0 rqb1 rqb2
 refine (c_cut nb bo bO bl bc bL bC 8 xb yb _ (ub.below (Nat.le_refl _) hb) (vb.below (Nat.le_refl _) hb) (by decide)).mono ?_
 rintro e w5 ⟨rfl, b⟩
 replace qa := qa.below b
 replace qb := qb.below b
 replace hb := bstep hb b
 replace hsz := Nat.lt_of_lt_of_le hsz b.size
 clear b
 generalize min bl 8 = bl2 at *
 generalize xb.take bl2 = xb2 at *
 generalize min bL 8 = bL2 at *
 generalize yb.take bL2 = yb2 at *
 obtain ⟨y0, y1, y2⟩ := qb.cells
 have f0 := qb.thaw 0
 have f1 := qb.thaw 1
 have f2 := qb.thaw 2
 obtain ⟨X6, hX6⟩ : ∃ X, X = (((w5.setCell ⟨g + 1, 0, none⟩ (.bool nb)).setCell ⟨g + 1, 1, none⟩ (.slice bo bl2 bc)).setCell ⟨g + 1, 2, none⟩ (.slice bO bL2 bC)) := ⟨_, rfl⟩
 have qb_ : QCell X6 (g + 1) nb (.slice bo bl2 bc) (.slice bO bL2 bC) := by rw [hX6]; exact qb.write _ _ _
 have qa_ : QCell X6 (g) na (.slice ao al2 ac) (.slice aO aL2 aC) := by rw [hX6]; exact ((qa.other (by omega) _ _).other (by omega) _ _).other (by omega) _ _
 replace hb : Below w.heap.size w X6 := by rw [hX6]; exact iend3 hb (by rw [HG.out]; omega)
 replace hsz : g + 1 < X6.heap.size := by rw [hX6]; simpa [World.setCell] using hsz
 replace qa := qa_
 clear qa_
 have rqa0 : ((((w5.setCell ⟨g + 1, 0, none⟩ (.bool nb)).setCell ⟨g + 1, 1, none⟩ (.slice bo bl2 bc)).setCell ⟨g + 1, 2, none⟩ (.slice bO bL2 bC))).cell? ⟨g, 0, none⟩ = some (.bool na) := by rw [← hX6]; exact qa.cells.1
 have rqa1 : ((((w5.setCell ⟨g + 1, 0, none⟩ (.bool nb)).setCell ⟨g + 1, 1, none⟩ (.slice bo bl2 bc)).setCell ⟨g + 1, 2, none⟩ (.slice bO bL2 bC))).cell? ⟨g, 1, none⟩ = some (.slice ao al2 ac) := by rw [← hX6]; exact qa.cells.2.1
 have rqa2 : ((((w5.setCell ⟨g + 1, 0, none⟩ (.bool nb)).setCell ⟨g + 1, 1, none⟩ (.slice bo bl2 bc)).setCell ⟨g + 1, 2, none⟩ (.slice bO bL2 bC))).cell? ⟨g, 2, none⟩ = some (.slice aO aL2 aC) := by rw [← hX6]; exact qa.cells.2.2
 replace qb := qb_
 clear qb_
 have rqb0 : ((((w5.setCell ⟨g + 1, 0, none⟩ (.bool nb)).setCell ⟨g + 1, 1, none⟩ (.slice bo bl2 bc)).setCell ⟨g + 1, 2, none⟩ (.slice bO bL2 bC))).cell? ⟨g + 1, 0, none⟩ = some (.bool nb) := by rw [← hX6]; exact qb.cells.1
 have rqb1 : ((((w5.setCell ⟨g + 1, 0, none⟩ (.bool nb)).setCell ⟨g + 1, 1, none⟩ (.slice bo bl2 bc)).setCell ⟨g + 1, 2, none⟩ (.slice bO bL2 bC))).cell? ⟨g + 1, 1, none⟩ = some (.slice bo bl2 bc) := by rw [← hX6]; exact qb.cells.2.1
 have rqb2 : ((((w5.setCell ⟨g + 1, 0, none⟩ (.bool nb)).setCell ⟨g + 1, 1, none⟩ (.slice bo bl2 bc)).setCell ⟨g + 1, 2, none⟩ (.slice bO bL2 bC))).cell? ⟨g + 1, 2, none⟩ = some (.slice bO bL2 bC) := by rw [← hX6]; exact qb.cells.2.2
 have HX6 : Hid (X6 = (((w5.setCell ⟨g + 1, 0, none⟩ (.bool nb)).setCell ⟨g + 1, 1, none⟩ (.slice bo bl2 bc)).setCell ⟨g + 1, 2, none⟩ (.slice bO bL2 bC))) := hX6
 clear hX6
 go_wp2_with fail
 rw [← HX6.out]
 clear HX6 y0 y1 y2 f0 f1 f2 rqa0 rqa1 rqa2 rqb0 rqb1 rqb2
 clear ua
 have ua := ua2.below (Nat.le_refl _) hb
 clear va
 have va := va2.below (Nat.le_refl _) hb
 clear ub
 have ub := ub2.below (Nat.le_refl _) hb
 clear vb
 have vb := vb2.below (Nat.le_refl _) hb
 have HU : Hid (Num w (.slice ao al2 ac) xa2 ∧ Num w (.slice aO aL2 aC) ya2 ∧ Num w (.slice bo bl2 bc) xb2 ∧ Num w (.slice bO bL2 bC) yb2) := ⟨ua2, va2, ub2, vb2⟩
 clear ua2 va2 ub2 vb2
 refine (lend3 na ao aO al2 ac aL2 aC xa2 ya2 _ ua va (Nat.le_trans HLA.out (by decide)) (Nat.le_trans HLa.out (by decide))).mono ?_
 rintro e w7 ⟨u, v, rfl, ra, rb, _, b⟩
 obtain ⟨uo, ul, uc, rfl⟩ := ra.own.sl
 obtain ⟨vo, vl, vc, rfl⟩ := rb.own.sl
 replace ua := ua.below (Nat.le_refl _) b
 replace va := va.below (Nat.le_refl _) b
 replace ub := ub.below (Nat.le_refl _) b
 replace vb := vb.below (Nat.le_refl _) b
 replace qa := qa.below b
 replace qb := qb.below b
 replace hb := bstep hb b
 replace hsz := Nat.lt_of_lt_of_le hsz b.size
 clear b
 have hq0 : QCell (w7.alloc (.cells #[.bool false, .slice none 0 0, .slice none 0 0] 27)) w7.heap.size false (.slice none 0 0) (.slice none 0 0) := qcell_new _ rfl
 obtain ⟨W8, hW8⟩ : ∃ W, W = w7.alloc (.cells #[.bool na, .slice uo ul uc, .slice vo vl vc] 27) := ⟨_, rfl⟩
 have qu : QCell W8 (w7.heap.size) na (.slice uo ul uc) (.slice vo vl vc) := by rw [hW8]; exact qcell_new _ rfl
 have b : Below w7.heap.size w7 W8 := by rw [hW8]; exact belowA _ _
 obtain ⟨z0, z1, z2⟩ := hq0.cells
 have t0 := hq0.thaw 0
 have t1 := hq0.thaw 1
 have t2 := hq0.thaw 2
 clear hq0
 replace ua := ua.below (Nat.le_refl _) b
 replace va := va.below (Nat.le_refl _) b
 replace ub := ub.below (Nat.le_refl _) b
 replace vb := vb.below (Nat.le_refl _) b
 replace ra := ra.below b
 replace rb := rb.below b
 replace qa := qa.below b
 replace qb := qb.below b
 replace hb := bstep hb b
 replace hsz := Nat.lt_of_lt_of_le hsz b.size
 clear b
 have rqa0 : (w7.alloc (.cells #[.bool na, .slice uo ul uc, .slice vo vl vc] 27)).cell? ⟨g, 0, none⟩ = some (.bool na) := by rw [← hW8]; exact qa.cells.1
 have rqa1 : (w7.alloc (.cells #[.bool na, .slice uo ul uc, .slice vo vl vc] 27)).cell? ⟨g, 1, none⟩ = some (.slice ao al2 ac) := by rw [← hW8]; exact qa.cells.2.1
 have rqa2 : (w7.alloc (.cells #[.bool na, .slice uo ul uc, .slice vo vl vc] 27)).cell? ⟨g, 2, none⟩ = some (.slice aO aL2 aC) := by rw [← hW8]; exact qa.cells.2.2
 have rqb0 : (w7.alloc (.cells #[.bool na, .slice uo ul uc, .slice vo vl vc] 27)).cell? ⟨g + 1, 0, none⟩ = some (.bool nb) := by rw [← hW8]; exact qb.cells.1
 have rqb1 : (w7.alloc (.cells #[.bool na, .slice uo ul uc, .slice vo vl vc] 27)).cell? ⟨g + 1, 1, none⟩ = some (.slice bo bl2 bc) := by rw [← hW8]; exact qb.cells.2.1
 have rqb2 : (w7.alloc (.cells #[.bool na, .slice uo ul uc, .slice vo vl vc] 27)).cell? ⟨g + 1, 2, none⟩ = some (.slice bO bL2 bC) := by rw [← hW8]; exact qb.cells.2.2
 have rqu0 : (w7.alloc (.cells #[.bool na, .slice uo ul uc, .slice vo vl vc] 27)).cell? ⟨w7.heap.size, 0, none⟩ = some (.bool na) := by rw [← hW8]; exact qu.cells.1
 have rqu1 : (w7.alloc (.cells #[.bool na, .slice uo ul uc, .slice vo vl vc] 27)).cell? ⟨w7.heap.size, 1, none⟩ = some (.slice uo ul uc) := by rw [← hW8]; exact qu.cells.2.1
 have rqu2 : (w7.alloc (.cells #[.bool na, .slice uo ul uc, .slice vo vl vc] 27)).cell? ⟨w7.heap.size, 2, none⟩ = some (.slice vo vl vc) := by rw [← hW8]; exact qu.cells.2.2
 obtain ⟨v8, hv8⟩ : ∃ v, v = w7.heap.size := ⟨_, rfl⟩
 rw [← hv8] at qu
 have HW8 : Hid (W8 = w7.alloc (.cells #[.bool na, .slice uo ul uc, .slice vo vl vc] 27)) := hW8
 have Hv8 : Hid (v8 = w7.heap.size) := hv8
 clear hW8 hv8
 go_wp2_with fail
 rw [← HW8.out, ← Hv8.out]
 clear HW8 Hv8 z0 t0 z1 t1 z2 t2 rqa0 rqa1 rqa2 rqb0 rqb1 rqb2 rqu0 rqu1 rqu2 
 refine (lend3 nb bo bO bl2 bc bL2 bC xb2 yb2 _ ub vb (Nat.le_trans HLB.out (by decide)) (Nat.le_trans HLb.out (by decide))).mono ?_
 rintro e w9 ⟨u, v, rfl, rc, rd, _, b⟩
 obtain ⟨eo, el, ec, rfl⟩ := rc.own.sl
 obtain ⟨fo, fl, fc, rfl⟩ := rd.own.sl
 replace ua := ua.below (Nat.le_refl _) b
 replace va := va.below (Nat.le_refl _) b
 replace ub := ub.below (Nat.le_refl _) b
 replace vb := vb.below (Nat.le_refl _) b
 replace ra := ra.below b
 replace rb := rb.below b
 replace qa := qa.below b
 replace qb := qb.below b
 replace qu := qu.below b
 replace hb := bstep hb b
 replace hsz := Nat.lt_of_lt_of_le hsz b.size
 clear b
 have hq0 : QCell (w9.alloc (.cells #[.bool false, .slice none 0 0, .slice none 0 0] 27)) w9.heap.size false (.slice none 0 0) (.slice none 0 0) := qcell_new _ rfl
 obtain ⟨W10, hW10⟩ : ∃ W, W = w9.alloc (.cells #[.bool nb, .slice eo el ec, .slice fo fl fc] 27) := ⟨_, rfl⟩
 have qv : QCell W10 (w9.heap.size) nb (.slice eo el ec) (.slice fo fl fc) := by rw [hW10]; exact qcell_new _ rfl
 have b : Below w9.heap.size w9 W10 := by rw [hW10]; exact belowA _ _
 obtain ⟨z0, z1, z2⟩ := hq0.cells
 have t0 := hq0.thaw 0
 have t1 := hq0.thaw 1
 have t2 := hq0.thaw 2
 clear hq0
 replace ua := ua.below (Nat.le_refl _) b
 replace va := va.below (Nat.le_refl _) b
 replace ub := ub.below (Nat.le_refl _) b
 replace vb := vb.below (Nat.le_refl _) b
 replace ra := ra.below b
 replace rb := rb.below b
 replace rc := rc.below b
 replace rd := rd.below b
 replace qa := qa.below b
 replace qb := qb.below b
 replace qu := qu.below b
 replace hb := bstep hb b
 replace hsz := Nat.lt_of_lt_of_le hsz b.size
 clear b
 have rqa0 : (w9.alloc (.cells #[.bool nb, .slice eo el ec, .slice fo fl fc] 27)).cell? ⟨g, 0, none⟩ = some (.bool na) := by rw [← hW10]; exact qa.cells.1
 have rqa1 : (w9.alloc (.cells #[.bool nb, .slice eo el ec, .slice fo fl fc] 27)).cell? ⟨g, 1, none⟩ = some (.slice ao al2 ac) := by rw [← hW10]; exact qa.cells.2.1
 have rqa2 : (w9.alloc (.cells #[.bool nb, .slice eo el ec, .slice fo fl fc] 27)).cell? ⟨g, 2, none⟩ = some (.slice aO aL2 aC) := by rw [← hW10]; exact qa.cells.2.2
 have rqb0 : (w9.alloc (.cells #[.bool nb, .slice eo el ec, .slice fo fl fc] 27)).cell? ⟨g + 1, 0, none⟩ = some (.bool nb) := by rw [← hW10]; exact qb.cells.1
 have rqb1 : (w9.alloc (.cells #[.bool nb, .slice eo el ec, .slice fo fl fc] 27)).cell? ⟨g + 1, 1, none⟩ = some (.slice bo bl2 bc) := by rw [← hW10]; exact qb.cells.2.1
 have rqb2 : (w9.alloc (.cells #[.bool nb, .slice eo el ec, .slice fo fl fc] 27)).cell? ⟨g + 1, 2, none⟩ = some (.slice bO bL2 bC) := by rw [← hW10]; exact qb.cells.2.2
 have rqu0 : (w9.alloc (.cells #[.bool nb, .slice eo el ec, .slice fo fl fc] 27)).cell? ⟨v8, 0, none⟩ = some (.bool na) := by rw [← hW10]; exact qu.cells.1
 have rqu1 : (w9.alloc (.cells #[.bool nb, .slice eo el ec, .slice fo fl fc] 27)).cell? ⟨v8, 1, none⟩ = some (.slice uo ul uc) := by rw [← hW10]; exact qu.cells.2.1
 have rqu2 : (w9.alloc (.cells #[.bool nb, .slice eo el ec, .slice fo fl fc] 27)).cell? ⟨v8, 2, none⟩ = some (.slice vo vl vc) := by rw [← hW10]; exact qu.cells.2.2
 have rqv0 : (w9.alloc (.cells #[.bool nb, .slice eo el ec, .slice fo fl fc] 27)).cell? ⟨w9.heap.size, 0, none⟩ = some (.bool nb) := by rw [← hW10]; exact qv.cells.1
 have rqv1 : (w9.alloc (.cells #[.bool nb, .slice eo el ec, .slice fo fl fc] 27)).cell? ⟨w9.heap.size, 1, none⟩ = some (.slice eo el ec) := by rw [← hW10]; exact qv.cells.2.1
 have rqv2 : (w9.alloc (.cells #[.bool nb, .slice eo el ec, .slice fo fl fc] 27)).cell? ⟨w9.heap.size, 2, none⟩ = some (.slice fo fl fc) := by rw [← hW10]; exact qv.cells.2.2
 obtain ⟨v10, hv10⟩ : ∃ v, v = w9.heap.size := ⟨_, rfl⟩
 rw [← hv10] at qv
 have HW10 : Hid (W10 = w9.alloc (.cells #[.bool nb, .slice eo el ec, .slice fo fl fc] 27)) := hW10
 have Hv10 : Hid (v10 = w9.heap.size) := hv10
 clear hW10 hv10
 go_wp2_with fail
 rw [← HW10.out, ← Hv10.out]
 clear HW10 Hv10 z0 t0 z1 t1 z2 t2 rqa0 rqa1 rqa2 rqb0 rqb1 rqb2 rqu0 rqu1 rqu2 rqv0 rqv1 rqv2 
 have hX : RV W10 (.agg #[.bool na, .slice ao al2 ac, .slice aO aL2 aC]) (zv na (val xa2)) (val ya2) := RV.of ua va HLA.out HLa.out
 have hY : RV W10 (.agg #[.bool nb, .slice bo bl2 bc, .slice bO bL2 bC]) (zv nb (val xb2)) (val yb2) := RV.of ub vb HLB.out HLb.out
 have hA : RV W10 (.agg #[.bool na, .slice uo ul uc, .slice vo vl vc]) (zv na (val xa2)) (val ya2) := RV.of ra.own.num rb.own.num HLA.out HLa.out
 have hB : RV W10 (.agg #[.bool nb, .slice eo el ec, .slice fo fl fc]) (zv nb (val xb2)) (val yb2) := RV.of rc.own.num rd.own.num HLB.out HLb.out
 clear ua va ub vb
 generalize zv na (val xa2) = p at *
 generalize val ya2 = q at *
 generalize zv nb (val xb2) = r at *
 generalize val yb2 = k at *
 obtain ⟨B0, hB0e⟩ : ∃ B, B = W10.heap.size := ⟨_, rfl⟩
 have hB0 : B0 ≤ W10.heap.size := Nat.le_of_eq hB0e
 have HWB : Hid (w.heap.size ≤ B0) := by show _ ≤ _; rw [hB0e]; exact hb.size
 have HRA : Hid (∀ k, (.slice uo ul uc : Value).ownBlock = some k → k < B0) := fun k e => by rw [hB0e]; exact (ra.own.block k e).2
 have HRB : Hid (∀ k, (.slice vo vl vc : Value).ownBlock = some k → k < B0) := fun k e => by rw [hB0e]; exact (rb.own.block k e).2
 have HRC : Hid (∀ k, (.slice eo el ec : Value).ownBlock = some k → k < B0) := fun k e => by rw [hB0e]; exact (rc.own.block k e).2
 have HRD : Hid (∀ k, (.slice fo fl fc : Value).ownBlock = some k → k < B0) := fun k e => by rw [hB0e]; exact (rd.own.block k e).2
 clear hB0e
 have F0 := fun W (h0 : RV W (.agg #[.bool na, .slice uo ul uc, .slice vo vl vc]) p q) (h1 : RV W (.agg #[.bool nb, .slice eo el ec, .slice fo fl fc]) r k) => aSimpF h0 h1
 have R0 := fun W (h0 : RV W (.agg #[.bool na, .slice ao al2 ac, .slice aO aL2 aC]) p q) (h1 : RV W (.agg #[.bool nb, .slice bo bl2 bc, .slice bO bL2 bC]) r k) => aSimpR h0 h1
 have HL0 : Hid _ := ln_simp hX hY
 have F1 := fun W (h0 : RV W (.agg #[.bool nb, .slice eo el ec, .slice fo fl fc]) r k) (h1 : RV W (.agg #[.bool na, .slice uo ul uc, .slice vo vl vc]) p q) => aSimpF h0 h1
 have R1 := fun W (h0 : RV W (.agg #[.bool nb, .slice bo bl2 bc, .slice bO bL2 bC]) r k) (h1 : RV W (.agg #[.bool na, .slice ao al2 ac, .slice aO aL2 aC]) p q) => aSimpR h0 h1
 have HL1 : Hid _ := ln_simp hY hX
 unfold TEx at F0 R0 F1 R1
 generalize zS (rq p q) (rq r k) = s0 at *
 generalize zE (rq p q) (rq r k) = e0 at *
 generalize zM (rq p q) (rq r k) = m0 at *
 generalize zD (rq p q) (rq r k) = d0 at *
 obtain ⟨l0, hl0⟩ : ∃ l, l = m0.length := ⟨_, rfl⟩
 obtain ⟨L0, hL0⟩ : ∃ l, l = d0.length := ⟨_, rfl⟩
 simp only [← hl0, ← hL0] at F0 R0
 clear hl0 hL0
 generalize zS (rq r k) (rq p q) = s1 at *
 generalize zE (rq r k) (rq p q) = e1 at *
 generalize zM (rq r k) (rq p q) = m1 at *
 generalize zD (rq r k) (rq p q) = d1 at *
 obtain ⟨l1, hl1⟩ : ∃ l, l = m1.length := ⟨_, rfl⟩
 obtain ⟨L1, hL1⟩ : ∃ l, l = d1.length := ⟨_, rfl⟩
 simp only [← hl1, ← hL1] at F1 R1
 clear hl1 hL1
 refine (F0 _ hA hB).mono ?_
 rintro e w11 ⟨f0o, f0c, g0o, g0c, rfl, hf0, hg0, pf0, b⟩
 clear F0
 replace hf0 := hf0.mono hB0
 replace hg0 := hg0.mono hB0
 replace ra := ra.below b
 replace rb := rb.below b
 replace rc := rc.below b
 replace rd := rd.below b
 replace hX := hX.below b
 replace hY := hY.below b
 replace hA := hA.below b
 replace hB := hB.below b
 replace hB0 := Nat.le_trans hB0 b.size
 replace qa := qa.below b
 replace qb := qb.below b
 replace qu := qu.below b
 replace qv := qv.below b
 replace hb := bstep hb b
 replace hsz := Nat.lt_of_lt_of_le hsz b.size
 clear b
 have hq0 : QCell (w11.alloc (.cells #[.bool false, .slice none 0 0, .slice none 0 0] 27)) w11.heap.size false (.slice none 0 0) (.slice none 0 0) := qcell_new _ rfl
 obtain ⟨W12, hW12⟩ : ∃ W, W = w11.alloc (.cells #[.bool s0, .slice f0o l0 f0c, .slice g0o L0 g0c] 27) := ⟨_, rfl⟩
 have qs : QCell W12 (w11.heap.size) s0 (.slice f0o l0 f0c) (.slice g0o L0 g0c) := by rw [hW12]; exact qcell_new _ rfl
 have b : Below w11.heap.size w11 W12 := by rw [hW12]; exact belowA _ _
 obtain ⟨z0, z1, z2⟩ := hq0.cells
 have t0 := hq0.thaw 0
 have t1 := hq0.thaw 1
 have t2 := hq0.thaw 2
 clear hq0
 replace ra := ra.below b
 replace rb := rb.below b
 replace rc := rc.below b
 replace rd := rd.below b
 replace hX := hX.below b
 replace hY := hY.below b
 replace hA := hA.below b
 replace hB := hB.below b
 replace hB0 := Nat.le_trans hB0 b.size
 replace hf0 := hf0.below b
 replace hg0 := hg0.below b
 replace qa := qa.below b
 replace qb := qb.below b
 replace qu := qu.below b
 replace qv := qv.below b
 replace hb := bstep hb b
 replace hsz := Nat.lt_of_lt_of_le hsz b.size
 clear b
 have rqa0 : (w11.alloc (.cells #[.bool s0, .slice f0o l0 f0c, .slice g0o L0 g0c] 27)).cell? ⟨g, 0, none⟩ = some (.bool na) := by rw [← hW12]; exact qa.cells.1
 have rqa1 : (w11.alloc (.cells #[.bool s0, .slice f0o l0 f0c, .slice g0o L0 g0c] 27)).cell? ⟨g, 1, none⟩ = some (.slice ao al2 ac) := by rw [← hW12]; exact qa.cells.2.1
 have rqa2 : (w11.alloc (.cells #[.bool s0, .slice f0o l0 f0c, .slice g0o L0 g0c] 27)).cell? ⟨g, 2, none⟩ = some (.slice aO aL2 aC) := by rw [← hW12]; exact qa.cells.2.2
 have rqb0 : (w11.alloc (.cells #[.bool s0, .slice f0o l0 f0c, .slice g0o L0 g0c] 27)).cell? ⟨g + 1, 0, none⟩ = some (.bool nb) := by rw [← hW12]; exact qb.cells.1
 have rqb1 : (w11.alloc (.cells #[.bool s0, .slice f0o l0 f0c, .slice g0o L0 g0c] 27)).cell? ⟨g + 1, 1, none⟩ = some (.slice bo bl2 bc) := by rw [← hW12]; exact qb.cells.2.1
 have rqb2 : (w11.alloc (.cells #[.bool s0, .slice f0o l0 f0c, .slice g0o L0 g0c] 27)).cell? ⟨g + 1, 2, none⟩ = some (.slice bO bL2 bC) := by rw [← hW12]; exact qb.cells.2.2
 have rqu0 : (w11.alloc (.cells #[.bool s0, .slice f0o l0 f0c, .slice g0o L0 g0c] 27)).cell? ⟨v8, 0, none⟩ = some (.bool na) := by rw [← hW12]; exact qu.cells.1
 have rqu1 : (w11.alloc (.cells #[.bool s0, .slice f0o l0 f0c, .slice g0o L0 g0c] 27)).cell? ⟨v8, 1, none⟩ = some (.slice uo ul uc) := by rw [← hW12]; exact qu.cells.2.1
 have rqu2 : (w11.alloc (.cells #[.bool s0, .slice f0o l0 f0c, .slice g0o L0 g0c] 27)).cell? ⟨v8, 2, none⟩ = some (.slice vo vl vc) := by rw [← hW12]; exact qu.cells.2.2
 have rqv0 : (w11.alloc (.cells #[.bool s0, .slice f0o l0 f0c, .slice g0o L0 g0c] 27)).cell? ⟨v10, 0, none⟩ = some (.bool nb) := by rw [← hW12]; exact qv.cells.1
 have rqv1 : (w11.alloc (.cells #[.bool s0, .slice f0o l0 f0c, .slice g0o L0 g0c] 27)).cell? ⟨v10, 1, none⟩ = some (.slice eo el ec) := by rw [← hW12]; exact qv.cells.2.1
 have rqv2 : (w11.alloc (.cells #[.bool s0, .slice f0o l0 f0c, .slice g0o L0 g0c] 27)).cell? ⟨v10, 2, none⟩ = some (.slice fo fl fc) := by rw [← hW12]; exact qv.cells.2.2
 have rqs0 : (w11.alloc (.cells #[.bool s0, .slice f0o l0 f0c, .slice g0o L0 g0c] 27)).cell? ⟨w11.heap.size, 0, none⟩ = some (.bool s0) := by rw [← hW12]; exact qs.cells.1
 have rqs1 : (w11.alloc (.cells #[.bool s0, .slice f0o l0 f0c, .slice g0o L0 g0c] 27)).cell? ⟨w11.heap.size, 1, none⟩ = some (.slice f0o l0 f0c) := by rw [← hW12]; exact qs.cells.2.1
 have rqs2 : (w11.alloc (.cells #[.bool s0, .slice f0o l0 f0c, .slice g0o L0 g0c] 27)).cell? ⟨w11.heap.size, 2, none⟩ = some (.slice g0o L0 g0c) := by rw [← hW12]; exact qs.cells.2.2
 obtain ⟨v12, hv12⟩ : ∃ v, v = w11.heap.size := ⟨_, rfl⟩
 rw [← hv12] at qs
 have HW12 : Hid (W12 = w11.alloc (.cells #[.bool s0, .slice f0o l0 f0c, .slice g0o L0 g0c] 27)) := hW12
 have Hv12 : Hid (v12 = w11.heap.size) := hv12
 clear hW12 hv12
 go_wp2_with fail
 rw [← HW12.out, ← Hv12.out]
 clear HW12 Hv12 z0 t0 z1 t1 z2 t2 rqa0 rqa1 rqa2 rqb0 rqb1 rqb2 rqu0 rqu1 rqu2 rqv0 rqv1 rqv2 rqs0 rqs1 rqs2 
 refine (F1 _ hB hA).mono ?_
 rintro e w13 ⟨f1o, f1c, g1o, g1c, rfl, hf1, hg1, pf1, b⟩
 clear F1
 have p1 := apart_later hf0 hf1 (Nat.le_refl _)
 have p2 := apart_later hf0 hg1 (Nat.le_refl _)
 have p3 := apart_later hg0 hf1 (Nat.le_refl _)
 have p4 := apart_later hg0 hg1 (Nat.le_refl _)
 replace hf1 := hf1.mono hB0
 replace hg1 := hg1.mono hB0
 replace ra := ra.below b
 replace rb := rb.below b
 replace rc := rc.below b
 replace rd := rd.below b
 replace hX := hX.below b
 replace hY := hY.below b
 replace hA := hA.below b
 replace hB := hB.below b
 replace hB0 := Nat.le_trans hB0 b.size
 replace hf0 := hf0.below b
 replace hg0 := hg0.below b
 replace qa := qa.below b
 replace qb := qb.below b
 replace qu := qu.below b
 replace qv := qv.below b
 replace qs := qs.below b
 replace hb := bstep hb b
 replace hsz := Nat.lt_of_lt_of_le hsz b.size
 clear b
 have hq0 : QCell (w13.alloc (.cells #[.bool false, .slice none 0 0, .slice none 0 0] 27)) w13.heap.size false (.slice none 0 0) (.slice none 0 0) := qcell_new _ rfl
 obtain ⟨W14, hW14⟩ : ∃ W, W = w13.alloc (.cells #[.bool s1, .slice f1o l1 f1c, .slice g1o L1 g1c] 27) := ⟨_, rfl⟩
 have qt : QCell W14 (w13.heap.size) s1 (.slice f1o l1 f1c) (.slice g1o L1 g1c) := by rw [hW14]; exact qcell_new _ rfl
 have b : Below w13.heap.size w13 W14 := by rw [hW14]; exact belowA _ _
 obtain ⟨z0, z1, z2⟩ := hq0.cells
 have t0 := hq0.thaw 0
 have t1 := hq0.thaw 1
 have t2 := hq0.thaw 2
 clear hq0
 replace ra := ra.below b
 replace rb := rb.below b
 replace rc := rc.below b
 replace rd := rd.below b
 replace hX := hX.below b
 replace hY := hY.below b
 replace hA := hA.below b
 replace hB := hB.below b
 replace hB0 := Nat.le_trans hB0 b.size
 replace hf0 := hf0.below b
 replace hg0 := hg0.below b
 replace hf1 := hf1.below b
 replace hg1 := hg1.below b
 replace qa := qa.below b
 replace qb := qb.below b
 replace qu := qu.below b
 replace qv := qv.below b
 replace qs := qs.below b
 replace hb := bstep hb b
 replace hsz := Nat.lt_of_lt_of_le hsz b.size
 clear b
 have rqa0 : (w13.alloc (.cells #[.bool s1, .slice f1o l1 f1c, .slice g1o L1 g1c] 27)).cell? ⟨g, 0, none⟩ = some (.bool na) := by rw [← hW14]; exact qa.cells.1
 have rqa1 : (w13.alloc (.cells #[.bool s1, .slice f1o l1 f1c, .slice g1o L1 g1c] 27)).cell? ⟨g, 1, none⟩ = some (.slice ao al2 ac) := by rw [← hW14]; exact qa.cells.2.1
 have rqa2 : (w13.alloc (.cells #[.bool s1, .slice f1o l1 f1c, .slice g1o L1 g1c] 27)).cell? ⟨g, 2, none⟩ = some (.slice aO aL2 aC) := by rw [← hW14]; exact qa.cells.2.2
 have rqb0 : (w13.alloc (.cells #[.bool s1, .slice f1o l1 f1c, .slice g1o L1 g1c] 27)).cell? ⟨g + 1, 0, none⟩ = some (.bool nb) := by rw [← hW14]; exact qb.cells.1
 have rqb1 : (w13.alloc (.cells #[.bool s1, .slice f1o l1 f1c, .slice g1o L1 g1c] 27)).cell? ⟨g + 1, 1, none⟩ = some (.slice bo bl2 bc) := by rw [← hW14]; exact qb.cells.2.1
 have rqb2 : (w13.alloc (.cells #[.bool s1, .slice f1o l1 f1c, .slice g1o L1 g1c] 27)).cell? ⟨g + 1, 2, none⟩ = some (.slice bO bL2 bC) := by rw [← hW14]; exact qb.cells.2.2
 have rqu0 : (w13.alloc (.cells #[.bool s1, .slice f1o l1 f1c, .slice g1o L1 g1c] 27)).cell? ⟨v8, 0, none⟩ = some (.bool na) := by rw [← hW14]; exact qu.cells.1
 have rqu1 : (w13.alloc (.cells #[.bool s1, .slice f1o l1 f1c, .slice g1o L1 g1c] 27)).cell? ⟨v8, 1, none⟩ = some (.slice uo ul uc) := by rw [← hW14]; exact qu.cells.2.1
 have rqu2 : (w13.alloc (.cells #[.bool s1, .slice f1o l1 f1c, .slice g1o L1 g1c] 27)).cell? ⟨v8, 2, none⟩ = some (.slice vo vl vc) := by rw [← hW14]; exact qu.cells.2.2
 have rqv0 : (w13.alloc (.cells #[.bool s1, .slice f1o l1 f1c, .slice g1o L1 g1c] 27)).cell? ⟨v10, 0, none⟩ = some (.bool nb) := by rw [← hW14]; exact qv.cells.1
 have rqv1 : (w13.alloc (.cells #[.bool s1, .slice f1o l1 f1c, .slice g1o L1 g1c] 27)).cell? ⟨v10, 1, none⟩ = some (.slice eo el ec) := by rw [← hW14]; exact qv.cells.2.1
 have rqv2 : (w13.alloc (.cells #[.bool s1, .slice f1o l1 f1c, .slice g1o L1 g1c] 27)).cell? ⟨v10, 2, none⟩ = some (.slice fo fl fc) := by rw [← hW14]; exact qv.cells.2.2
 have rqs0 : (w13.alloc (.cells #[.bool s1, .slice f1o l1 f1c, .slice g1o L1 g1c] 27)).cell? ⟨v12, 0, none⟩ = some (.bool s0) := by rw [← hW14]; exact qs.cells.1
 have rqs1 : (w13.alloc (.cells #[.bool s1, .slice f1o l1 f1c, .slice g1o L1 g1c] 27)).cell? ⟨v12, 1, none⟩ = some (.slice f0o l0 f0c) := by rw [← hW14]; exact qs.cells.2.1
 have rqs2 : (w13.alloc (.cells #[.bool s1, .slice f1o l1 f1c, .slice g1o L1 g1c] 27)).cell? ⟨v12, 2, none⟩ = some (.slice g0o L0 g0c) := by rw [← hW14]; exact qs.cells.2.2
 have rqt0 : (w13.alloc (.cells #[.bool s1, .slice f1o l1 f1c, .slice g1o L1 g1c] 27)).cell? ⟨w13.heap.size, 0, none⟩ = some (.bool s1) := by rw [← hW14]; exact qt.cells.1
 have rqt1 : (w13.alloc (.cells #[.bool s1, .slice f1o l1 f1c, .slice g1o L1 g1c] 27)).cell? ⟨w13.heap.size, 1, none⟩ = some (.slice f1o l1 f1c) := by rw [← hW14]; exact qt.cells.2.1
 have rqt2 : (w13.alloc (.cells #[.bool s1, .slice f1o l1 f1c, .slice g1o L1 g1c] 27)).cell? ⟨w13.heap.size, 2, none⟩ = some (.slice g1o L1 g1c) := by rw [← hW14]; exact qt.cells.2.2
 obtain ⟨v14, hv14⟩ : ∃ v, v = w13.heap.size := ⟨_, rfl⟩
 rw [← hv14] at qt
 have HW14 : Hid (W14 = w13.alloc (.cells #[.bool s1, .slice f1o l1 f1c, .slice g1o L1 g1c] 27)) := hW14
 have Hv14 : Hid (v14 = w13.heap.size) := hv14
 clear hW14 hv14
 go_wp2_with fail
 rw [← HW14.out, ← Hv14.out]
 clear HW14 Hv14 z0 t0 z1 t1 z2 t2 rqa0 rqa1 rqa2 rqb0 rqb1 rqb2 rqu0 rqu1 rqu2 rqv0 rqv1 rqv2 rqs0 rqs1 rqs2 rqt0 rqt1 rqt2 
 clear hA hB
 refine (R0 _ hX hY).mono ?_
 rintro e w15 ⟨x0o, x0c, y0o, y0c, rfl, hx0, hy0, _, b⟩
 clear R0
 replace hx0 := hx0.num
 replace hy0 := hy0.num
 replace ra := ra.below b
 replace rb := rb.below b
 replace rc := rc.below b
 replace rd := rd.below b
 replace hX := hX.below b
 replace hY := hY.below b
 replace hB0 := Nat.le_trans hB0 b.size
 replace hf0 := hf0.below b
 replace hg0 := hg0.below b
 replace hf1 := hf1.below b
 replace hg1 := hg1.below b
 replace qa := qa.below b
 replace qb := qb.below b
 replace qu := qu.below b
 replace qv := qv.below b
 replace qs := qs.below b
 replace qt := qt.below b
 replace hb := bstep hb b
 replace hsz := Nat.lt_of_lt_of_le hsz b.size
 clear b
 have hq0 : QCell (w15.alloc (.cells #[.bool false, .slice none 0 0, .slice none 0 0] 27)) w15.heap.size false (.slice none 0 0) (.slice none 0 0) := qcell_new _ rfl
 obtain ⟨W16, hW16⟩ : ∃ W, W = w15.alloc (.cells #[.bool s0, .slice x0o l0 x0c, .slice y0o L0 y0c] 27) := ⟨_, rfl⟩
 have qx : QCell W16 (w15.heap.size) s0 (.slice x0o l0 x0c) (.slice y0o L0 y0c) := by rw [hW16]; exact qcell_new _ rfl
 have b : Below w15.heap.size w15 W16 := by rw [hW16]; exact belowA _ _
 obtain ⟨z0, z1, z2⟩ := hq0.cells
 have t0 := hq0.thaw 0
 have t1 := hq0.thaw 1
 have t2 := hq0.thaw 2
 clear hq0
 replace ra := ra.below b
 replace rb := rb.below b
 replace rc := rc.below b
 replace rd := rd.below b
 replace hX := hX.below b
 replace hY := hY.below b
 replace hB0 := Nat.le_trans hB0 b.size
 replace hf0 := hf0.below b
 replace hg0 := hg0.below b
 replace hf1 := hf1.below b
 replace hg1 := hg1.below b
 replace hx0 := hx0.below (Nat.le_refl _) b
 replace hy0 := hy0.below (Nat.le_refl _) b
 replace qa := qa.below b
 replace qb := qb.below b
 replace qu := qu.below b
 replace qv := qv.below b
 replace qs := qs.below b
 replace qt := qt.below b
 replace hb := bstep hb b
 replace hsz := Nat.lt_of_lt_of_le hsz b.size
 clear b
 have rqa0 : (w15.alloc (.cells #[.bool s0, .slice x0o l0 x0c, .slice y0o L0 y0c] 27)).cell? ⟨g, 0, none⟩ = some (.bool na) := by rw [← hW16]; exact qa.cells.1
 have rqa1 : (w15.alloc (.cells #[.bool s0, .slice x0o l0 x0c, .slice y0o L0 y0c] 27)).cell? ⟨g, 1, none⟩ = some (.slice ao al2 ac) := by rw [← hW16]; exact qa.cells.2.1
 have rqa2 : (w15.alloc (.cells #[.bool s0, .slice x0o l0 x0c, .slice y0o L0 y0c] 27)).cell? ⟨g, 2, none⟩ = some (.slice aO aL2 aC) := by rw [← hW16]; exact qa.cells.2.2
 have rqb0 : (w15.alloc (.cells #[.bool s0, .slice x0o l0 x0c, .slice y0o L0 y0c] 27)).cell? ⟨g + 1, 0, none⟩ = some (.bool nb) := by rw [← hW16]; exact qb.cells.1
 have rqb1 : (w15.alloc (.cells #[.bool s0, .slice x0o l0 x0c, .slice y0o L0 y0c] 27)).cell? ⟨g + 1, 1, none⟩ = some (.slice bo bl2 bc) := by rw [← hW16]; exact qb.cells.2.1
 have rqb2 : (w15.alloc (.cells #[.bool s0, .slice x0o l0 x0c, .slice y0o L0 y0c] 27)).cell? ⟨g + 1, 2, none⟩ = some (.slice bO bL2 bC) := by rw [← hW16]; exact qb.cells.2.2
 have rqu0 : (w15.alloc (.cells #[.bool s0, .slice x0o l0 x0c, .slice y0o L0 y0c] 27)).cell? ⟨v8, 0, none⟩ = some (.bool na) := by rw [← hW16]; exact qu.cells.1
 have rqu1 : (w15.alloc (.cells #[.bool s0, .slice x0o l0 x0c, .slice y0o L0 y0c] 27)).cell? ⟨v8, 1, none⟩ = some (.slice uo ul uc) := by rw [← hW16]; exact qu.cells.2.1
 have rqu2 : (w15.alloc (.cells #[.bool s0, .slice x0o l0 x0c, .slice y0o L0 y0c] 27)).cell? ⟨v8, 2, none⟩ = some (.slice vo vl vc) := by rw [← hW16]; exact qu.cells.2.2
 have rqv0 : (w15.alloc (.cells #[.bool s0, .slice x0o l0 x0c, .slice y0o L0 y0c] 27)).cell? ⟨v10, 0, none⟩ = some (.bool nb) := by rw [← hW16]; exact qv.cells.1
 have rqv1 : (w15.alloc (.cells #[.bool s0, .slice x0o l0 x0c, .slice y0o L0 y0c] 27)).cell? ⟨v10, 1, none⟩ = some (.slice eo el ec) := by rw [← hW16]; exact qv.cells.2.1
 have rqv2 : (w15.alloc (.cells #[.bool s0, .slice x0o l0 x0c, .slice y0o L0 y0c] 27)).cell? ⟨v10, 2, none⟩ = some (.slice fo fl fc) := by rw [← hW16]; exact qv.cells.2.2
 have rqs0 : (w15.alloc (.cells #[.bool s0, .slice x0o l0 x0c, .slice y0o L0 y0c] 27)).cell? ⟨v12, 0, none⟩ = some (.bool s0) := by rw [← hW16]; exact qs.cells.1
 have rqs1 : (w15.alloc (.cells #[.bool s0, .slice x0o l0 x0c, .slice y0o L0 y0c] 27)).cell? ⟨v12, 1, none⟩ = some (.slice f0o l0 f0c) := by rw [← hW16]; exact qs.cells.2.1
 have rqs2 : (w15.alloc (.cells #[.bool s0, .slice x0o l0 x0c, .slice y0o L0 y0c] 27)).cell? ⟨v12, 2, none⟩ = some (.slice g0o L0 g0c) := by rw [← hW16]; exact qs.cells.2.2
 have rqt0 : (w15.alloc (.cells #[.bool s0, .slice x0o l0 x0c, .slice y0o L0 y0c] 27)).cell? ⟨v14, 0, none⟩ = some (.bool s1) := by rw [← hW16]; exact qt.cells.1
 have rqt1 : (w15.alloc (.cells #[.bool s0, .slice x0o l0 x0c, .slice y0o L0 y0c] 27)).cell? ⟨v14, 1, none⟩ = some (.slice f1o l1 f1c) := by rw [← hW16]; exact qt.cells.2.1
 have rqt2 : (w15.alloc (.cells #[.bool s0, .slice x0o l0 x0c, .slice y0o L0 y0c] 27)).cell? ⟨v14, 2, none⟩ = some (.slice g1o L1 g1c) := by rw [← hW16]; exact qt.cells.2.2
 have rqx0 : (w15.alloc (.cells #[.bool s0, .slice x0o l0 x0c, .slice y0o L0 y0c] 27)).cell? ⟨w15.heap.size, 0, none⟩ = some (.bool s0) := by rw [← hW16]; exact qx.cells.1
 have rqx1 : (w15.alloc (.cells #[.bool s0, .slice x0o l0 x0c, .slice y0o L0 y0c] 27)).cell? ⟨w15.heap.size, 1, none⟩ = some (.slice x0o l0 x0c) := by rw [← hW16]; exact qx.cells.2.1
 have rqx2 : (w15.alloc (.cells #[.bool s0, .slice x0o l0 x0c, .slice y0o L0 y0c] 27)).cell? ⟨w15.heap.size, 2, none⟩ = some (.slice y0o L0 y0c) := by rw [← hW16]; exact qx.cells.2.2
 obtain ⟨v16, hv16⟩ : ∃ v, v = w15.heap.size := ⟨_, rfl⟩
 rw [← hv16] at qx
 have HW16 : Hid (W16 = w15.alloc (.cells #[.bool s0, .slice x0o l0 x0c, .slice y0o L0 y0c] 27)) := hW16
 have Hv16 : Hid (v16 = w15.heap.size) := hv16
 clear hW16 hv16
 go_wp2_with fail
 rw [← HW16.out, ← Hv16.out]
 clear HW16 Hv16 z0 t0 z1 t1 z2 t2 rqa0 rqa1 rqa2 rqb0 rqb1 rqb2 rqu0 rqu1 rqu2 rqv0 rqv1 rqv2 rqs0 rqs1 rqs2 rqt0 rqt1 rqt2 rqx0 rqx1 rqx2 
 refine (R1 _ hY hX).mono ?_
 rintro e w17 ⟨x1o, x1c, y1o, y1c, rfl, hx1, hy1, _, b⟩
 clear R1
 replace hx1 := hx1.num
 replace hy1 := hy1.num
 replace ra := ra.below b
 replace rb := rb.below b
 replace rc := rc.below b
 replace rd := rd.below b
 replace hX := hX.below b
 replace hY := hY.below b
 replace hB0 := Nat.le_trans hB0 b.size
 replace hf0 := hf0.below b
 replace hg0 := hg0.below b
 replace hf1 := hf1.below b
 replace hg1 := hg1.below b
 replace hx0 := hx0.below (Nat.le_refl _) b
 replace hy0 := hy0.below (Nat.le_refl _) b
 replace qa := qa.below b
 replace qb := qb.below b
 replace qu := qu.below b
 replace qv := qv.below b
 replace qs := qs.below b
 replace qt := qt.below b
 replace qx := qx.below b
 replace hb := bstep hb b
 replace hsz := Nat.lt_of_lt_of_le hsz b.size
 clear b
 have hq0 : QCell (w17.alloc (.cells #[.bool false, .slice none 0 0, .slice none 0 0] 27)) w17.heap.size false (.slice none 0 0) (.slice none 0 0) := qcell_new _ rfl
 obtain ⟨W18, hW18⟩ : ∃ W, W = w17.alloc (.cells #[.bool s1, .slice x1o l1 x1c, .slice y1o L1 y1c] 27) := ⟨_, rfl⟩
 have qy : QCell W18 (w17.heap.size) s1 (.slice x1o l1 x1c) (.slice y1o L1 y1c) := by rw [hW18]; exact qcell_new _ rfl
 have b : Below w17.heap.size w17 W18 := by rw [hW18]; exact belowA _ _
 obtain ⟨z0, z1, z2⟩ := hq0.cells
 have t0 := hq0.thaw 0
 have t1 := hq0.thaw 1
 have t2 := hq0.thaw 2
 clear hq0
 replace ra := ra.below b
 replace rb := rb.below b
 replace rc := rc.below b
 replace rd := rd.below b
 replace hX := hX.below b
 replace hY := hY.below b
 replace hB0 := Nat.le_trans hB0 b.size
 replace hf0 := hf0.below b
 replace hg0 := hg0.below b
 replace hf1 := hf1.below b
 replace hg1 := hg1.below b
 replace hx0 := hx0.below (Nat.le_refl _) b
 replace hy0 := hy0.below (Nat.le_refl _) b
 replace hx1 := hx1.below (Nat.le_refl _) b
 replace hy1 := hy1.below (Nat.le_refl _) b
 replace qa := qa.below b
 replace qb := qb.below b
 replace qu := qu.below b
 replace qv := qv.below b
 replace qs := qs.below b
 replace qt := qt.below b
 replace qx := qx.below b
 replace hb := bstep hb b
 replace hsz := Nat.lt_of_lt_of_le hsz b.size
 clear b
 have rqa0 : (w17.alloc (.cells #[.bool s1, .slice x1o l1 x1c, .slice y1o L1 y1c] 27)).cell? ⟨g, 0, none⟩ = some (.bool na) := by rw [← hW18]; exact qa.cells.1
 have rqa1 : (w17.alloc (.cells #[.bool s1, .slice x1o l1 x1c, .slice y1o L1 y1c] 27)).cell? ⟨g, 1, none⟩ = some (.slice ao al2 ac) := by rw [← hW18]; exact qa.cells.2.1
 have rqa2 : (w17.alloc (.cells #[.bool s1, .slice x1o l1 x1c, .slice y1o L1 y1c] 27)).cell? ⟨g, 2, none⟩ = some (.slice aO aL2 aC) := by rw [← hW18]; exact qa.cells.2.2
 have rqb0 : (w17.alloc (.cells #[.bool s1, .slice x1o l1 x1c, .slice y1o L1 y1c] 27)).cell? ⟨g + 1, 0, none⟩ = some (.bool nb) := by rw [← hW18]; exact qb.cells.1
 have rqb1 : (w17.alloc (.cells #[.bool s1, .slice x1o l1 x1c, .slice y1o L1 y1c] 27)).cell? ⟨g + 1, 1, none⟩ = some (.slice bo bl2 bc) := by rw [← hW18]; exact qb.cells.2.1
 have rqb2 : (w17.alloc (.cells #[.bool s1, .slice x1o l1 x1c, .slice y1o L1 y1c] 27)).cell? ⟨g + 1, 2, none⟩ = some (.slice bO bL2 bC) := by rw [← hW18]; exact qb.cells.2.2
 have rqu0 : (w17.alloc (.cells #[.bool s1, .slice x1o l1 x1c, .slice y1o L1 y1c] 27)).cell? ⟨v8, 0, none⟩ = some (.bool na) := by rw [← hW18]; exact qu.cells.1
 have rqu1 : (w17.alloc (.cells #[.bool s1, .slice x1o l1 x1c, .slice y1o L1 y1c] 27)).cell? ⟨v8, 1, none⟩ = some (.slice uo ul uc) := by rw [← hW18]; exact qu.cells.2.1
 have rqu2 : (w17.alloc (.cells #[.bool s1, .slice x1o l1 x1c, .slice y1o L1 y1c] 27)).cell? ⟨v8, 2, none⟩ = some (.slice vo vl vc) := by rw [← hW18]; exact qu.cells.2.2
 have rqv0 : (w17.alloc (.cells #[.bool s1, .slice x1o l1 x1c, .slice y1o L1 y1c] 27)).cell? ⟨v10, 0, none⟩ = some (.bool nb) := by rw [← hW18]; exact qv.cells.1
 have rqv1 : (w17.alloc (.cells #[.bool s1, .slice x1o l1 x1c, .slice y1o L1 y1c] 27)).cell? ⟨v10, 1, none⟩ = some (.slice eo el ec) := by rw [← hW18]; exact qv.cells.2.1
 have rqv2 : (w17.alloc (.cells #[.bool s1, .slice x1o l1 x1c, .slice y1o L1 y1c] 27)).cell? ⟨v10, 2, none⟩ = some (.slice fo fl fc) := by rw [← hW18]; exact qv.cells.2.2
 have rqs0 : (w17.alloc (.cells #[.bool s1, .slice x1o l1 x1c, .slice y1o L1 y1c] 27)).cell? ⟨v12, 0, none⟩ = some (.bool s0) := by rw [← hW18]; exact qs.cells.1
 have rqs1 : (w17.alloc (.cells #[.bool s1, .slice x1o l1 x1c, .slice y1o L1 y1c] 27)).cell? ⟨v12, 1, none⟩ = some (.slice f0o l0 f0c) := by rw [← hW18]; exact qs.cells.2.1
 have rqs2 : (w17.alloc (.cells #[.bool s1, .slice x1o l1 x1c, .slice y1o L1 y1c] 27)).cell? ⟨v12, 2, none⟩ = some (.slice g0o L0 g0c) := by rw [← hW18]; exact qs.cells.2.2
 have rqt0 : (w17.alloc (.cells #[.bool s1, .slice x1o l1 x1c, .slice y1o L1 y1c] 27)).cell? ⟨v14, 0, none⟩ = some (.bool s1) := by rw [← hW18]; exact qt.cells.1
 have rqt1 : (w17.alloc (.cells #[.bool s1, .slice x1o l1 x1c, .slice y1o L1 y1c] 27)).cell? ⟨v14, 1, none⟩ = some (.slice f1o l1 f1c) := by rw [← hW18]; exact qt.cells.2.1
 have rqt2 : (w17.alloc (.cells #[.bool s1, .slice x1o l1 x1c, .slice y1o L1 y1c] 27)).cell? ⟨v14, 2, none⟩ = some (.slice g1o L1 g1c) := by rw [← hW18]; exact qt.cells.2.2
 have rqx0 : (w17.alloc (.cells #[.bool s1, .slice x1o l1 x1c, .slice y1o L1 y1c] 27)).cell? ⟨v16, 0, none⟩ = some (.bool s0) := by rw [← hW18]; exact qx.cells.1
 have rqx1 : (w17.alloc (.cells #[.bool s1, .slice x1o l1 x1c, .slice y1o L1 y1c] 27)).cell? ⟨v16, 1, none⟩ = some (.slice x0o l0 x0c) := by rw [← hW18]; exact qx.cells.2.1
 have rqx2 : (w17.alloc (.cells #[.bool s1, .slice x1o l1 x1c, .slice y1o L1 y1c] 27)).cell? ⟨v16, 2, none⟩ = some (.slice y0o L0 y0c) := by rw [← hW18]; exact qx.cells.2.2
 have rqy0 : (w17.alloc (.cells #[.bool s1, .slice x1o l1 x1c, .slice y1o L1 y1c] 27)).cell? ⟨w17.heap.size, 0, none⟩ = some (.bool s1) := by rw [← hW18]; exact qy.cells.1
 have rqy1 : (w17.alloc (.cells #[.bool s1, .slice x1o l1 x1c, .slice y1o L1 y1c] 27)).cell? ⟨w17.heap.size, 1, none⟩ = some (.slice x1o l1 x1c) := by rw [← hW18]; exact qy.cells.2.1
 have rqy2 : (w17.alloc (.cells #[.bool s1, .slice x1o l1 x1c, .slice y1o L1 y1c] 27)).cell? ⟨w17.heap.size, 2, none⟩ = some (.slice y1o L1 y1c) := by rw [← hW18]; exact qy.cells.2.2
 obtain ⟨v18, hv18⟩ : ∃ v, v = w17.heap.size := ⟨_, rfl⟩
 rw [← hv18] at qy
 have HW18 : Hid (W18 = w17.alloc (.cells #[.bool s1, .slice x1o l1 x1c, .slice y1o L1 y1c] 27)) := hW18
 have Hv18 : Hid (v18 = w17.heap.size) := hv18
 clear hW18 hv18
 go_wp2_with fail
 rw [← HW18.out, ← Hv18.out]
 clear HW18 Hv18 z0 t0 z1 t1 z2 t2 rqa0 rqa1 rqa2 rqb0 rqb1 rqb2 rqu0 rqu1 rqu2 rqv0 rqv1 rqv2 rqs0 rqs1 rqs2 rqt0 rqt1 rqt2 rqx0 rqx1 rqx2 rqy0 rqy1 rqy2 
 clear hX hY
 refine (same3 s0 f0o x0o g0o y0o l0 f0c x0c L0 g0c y0c m0 d0 _ hf0.num hx0 hg0.num hy0).mono ?_
 rintro e w19 ⟨rfl, b⟩
 replace ra := ra.below b
 replace rb := rb.below b
 replace rc := rc.below b
 replace rd := rd.below b
 replace hB0 := Nat.le_trans hB0 b.size
 replace hf0 := hf0.below b
 replace hg0 := hg0.below b
 replace hf1 := hf1.below b
 replace hg1 := hg1.below b
 replace hx0 := hx0.below (Nat.le_refl _) b
 replace hy0 := hy0.below (Nat.le_refl _) b
 replace hx1 := hx1.below (Nat.le_refl _) b
 replace hy1 := hy1.below (Nat.le_refl _) b
 replace qa := qa.below b
 replace qb := qb.below b
 replace qu := qu.below b
 replace qv := qv.below b
 replace qs := qs.below b
 replace qt := qt.below b
 replace qx := qx.below b
 replace qy := qy.below b
 replace hb := bstep hb b
 replace hsz := Nat.lt_of_lt_of_le hsz b.size
 clear b
 obtain ⟨cqa0, cqa1, cqa2⟩ := qa.cells
 obtain ⟨cqb0, cqb1, cqb2⟩ := qb.cells
 obtain ⟨cqu0, cqu1, cqu2⟩ := qu.cells
 obtain ⟨cqv0, cqv1, cqv2⟩ := qv.cells
 obtain ⟨cqs0, cqs1, cqs2⟩ := qs.cells
 obtain ⟨cqt0, cqt1, cqt2⟩ := qt.cells
 obtain ⟨cqx0, cqx1, cqx2⟩ := qx.cells
 obtain ⟨cqy0, cqy1, cqy2⟩ := qy.cells
 go_wp2_with fail
 clear cqa0 cqa1 cqa2 cqb0 cqb1 cqb2 cqu0 cqu1 cqu2 cqv0 cqv1 cqv2 cqs0 cqs1 cqs2 cqt0 cqt1 cqt2 cqx0 cqx1 cqx2 cqy0 cqy1 cqy2
 refine (same3 s1 f1o x1o g1o y1o l1 f1c x1c L1 g1c y1c m1 d1 _ hf1.num hx1 hg1.num hy1).mono ?_
 rintro e w20 ⟨rfl, b⟩
 replace ra := ra.below b
 replace rb := rb.below b
 replace rc := rc.below b
 replace rd := rd.below b
 replace hB0 := Nat.le_trans hB0 b.size
 replace hf0 := hf0.below b
 replace hg0 := hg0.below b
 replace hf1 := hf1.below b
 replace hg1 := hg1.below b
 replace hx0 := hx0.below (Nat.le_refl _) b
 replace hy0 := hy0.below (Nat.le_refl _) b
 replace hx1 := hx1.below (Nat.le_refl _) b
 replace hy1 := hy1.below (Nat.le_refl _) b
 replace qa := qa.below b
 replace qb := qb.below b
 replace qu := qu.below b
 replace qv := qv.below b
 replace qs := qs.below b
 replace qt := qt.below b
 replace qx := qx.below b
 replace qy := qy.below b
 replace hb := bstep hb b
 replace hsz := Nat.lt_of_lt_of_le hsz b.size
 clear b
 clear hx0 hy0 hx1 hy1
 obtain ⟨WO, hWO⟩ : ∃ W, W = w20.alloc (.cells #[.bool s0, .slice f0o l0 f0c, .slice g0o L0 g0c, .bool s1, .slice f1o l1 f1c, .slice g1o L1 g1c] 27) := ⟨_, rfl⟩
 have hrow : ∀ i, i < 2 → WO.cell? ⟨w20.heap.size, i * 3 + 1, none⟩ = some (two (.slice f0o l0 f0c) (.slice f1o l1 f1c) i) ∧ WO.cell? ⟨w20.heap.size, i * 3 + 2, none⟩ = some (two (.slice g0o L0 g0c) (.slice g1o L1 g1c) i) := by
  intro i hi
  rw [hWO, World.cell?_alloc_at _ _ _ _ rfl, World.cell?_alloc_at _ _ _ _ rfl]
  match i, hi with
  | 0, _ => exact ⟨rfl, rfl⟩
  | 1, _ => exact ⟨rfl, rfl⟩
 have b : Below w20.heap.size w20 WO := by rw [hWO]; exact belowA _ _
 obtain ⟨cqa0, cqa1, cqa2⟩ := qa.cells
 obtain ⟨cqb0, cqb1, cqb2⟩ := qb.cells
 obtain ⟨cqu0, cqu1, cqu2⟩ := qu.cells
 obtain ⟨cqv0, cqv1, cqv2⟩ := qv.cells
 obtain ⟨cqs0, cqs1, cqs2⟩ := qs.cells
 obtain ⟨cqt0, cqt1, cqt2⟩ := qt.cells
 obtain ⟨cqx0, cqx1, cqx2⟩ := qx.cells
 obtain ⟨cqy0, cqy1, cqy2⟩ := qy.cells
 have HWO : Hid (WO = w20.alloc (.cells #[.bool s0, .slice f0o l0 f0c, .slice g0o L0 g0c, .bool s1, .slice f1o l1 f1c, .slice g1o L1 g1c] 27)) := hWO
 clear hWO
 go_wp2_with fail
 rw [← HWO.out]
 clear HWO cqa0 cqa1 cqa2 cqb0 cqb1 cqb2 cqu0 cqu1 cqu2 cqv0 cqv1 cqv2 cqs0 cqs1 cqs2 cqt0 cqt1 cqt2 cqx0 cqx1 cqx2 cqy0 cqy1 cqy2
 replace ra := ra.below b
 replace rb := rb.below b
 replace rc := rc.below b
 replace rd := rd.below b
 replace hB0 := Nat.le_trans hB0 b.size
 replace hf0 := hf0.below b
 replace hg0 := hg0.below b
 replace hf1 := hf1.below b
 replace hg1 := hg1.below b
 replace qa := qa.below b
 replace qb := qb.below b
 replace qu := qu.below b
 replace qv := qv.below b
 replace qs := qs.below b
 replace qt := qt.below b
 replace qx := qx.below b
 replace qy := qy.below b
 replace hb := bstep hb b
 replace hsz := Nat.lt_of_lt_of_le hsz b.size
 clear b
 have hfam := fam4 hf0 hg0 hf1 hg1
 have hdist := dist4 pf0 p1 p2 p3 p4 pf1
 have hq := ownRats3 B0 _ 2 2 _ _ _ WO hB0 (by decide) (by decide) hrow (fun i hi => by match i, hi with | 0, _ => exact ⟨⟨_, _, _, rfl⟩, _, _, _, rfl⟩ | 1, _ => exact ⟨⟨_, _, _, rfl⟩, _, _, _, rfl⟩) hfam hdist (fun j hj => by
  match j, hj with
  | 0, _ => exact Nat.le_trans HL0.out.1 (by decide)
  | 1, _ => exact Nat.le_trans HL0.out.2 (by decide)
  | 2, _ => exact Nat.le_trans HL1.out.1 (by decide)
  | 3, _ => exact Nat.le_trans HL1.out.2 (by decide))
 refine hq.mono ?_
 rintro e wK ⟨rfl, hx⟩
 clear hq
 replace hb := hb.trans (hx.below (B := w.heap.size) hb.size (fun j k hj e => Nat.le_trans HWB.out ((hfam j hj).block k e).1))
 replace ra := ra.bex hx (apart_base9 hfam HRA.out)
 replace rb := rb.bex hx (apart_base9 hfam HRB.out)
 replace rc := rc.bex hx (apart_base9 hfam HRC.out)
 replace rd := rd.bex hx (apart_base9 hfam HRD.out)
 replace qa := qa.bexS hx hfam
 replace qb := qb.bexS hx hfam
 replace qu := qu.bexS hx hfam
 replace qv := qv.bexS hx hfam
 obtain ⟨ua, va, ub, vb⟩ := HU.out
 replace ua := ua.below (Nat.le_refl _) hb
 replace va := va.below (Nat.le_refl _) hb
 replace ub := ub.below (Nat.le_refl _) hb
 replace vb := vb.below (Nat.le_refl _) hb
 clear hx hfam hdist hrow hf0 hg0 hf1 hg1 pf0 p1 p2 p3 p4 pf1 hB0 hsz HU qs qt qx qy
 obtain ⟨cqa0, cqa1, cqa2⟩ := qa.cells
 obtain ⟨cqb0, cqb1, cqb2⟩ := qb.cells
 obtain ⟨cqu0, cqu1, cqu2⟩ := qu.cells
 obtain ⟨cqv0, cqv1, cqv2⟩ := qv.cells
 go_wp2_with fail
 clear cqa0 cqa1 cqa2 cqb0 cqb1 cqb2 cqu0 cqu1 cqu2 cqv0 cqv1 cqv2
 refine (kept3 _ na uo ao vo aO ul uc al2 ac vl vc aL2 aC xa2 ya2 _ ra rb ua va (Nat.le_trans HLA.out (by decide)) (Nat.le_trans HLa.out (by decide))).mono ?_
 rintro e w21 ⟨rfl, b⟩
 replace ra := ra.below b
 replace rb := rb.below b
 replace rc := rc.below b
 replace rd := rd.below b
 replace ua := ua.below (Nat.le_refl _) b
 replace va := va.below (Nat.le_refl _) b
 replace ub := ub.below (Nat.le_refl _) b
 replace vb := vb.below (Nat.le_refl _) b
 replace qa := qa.below b
 replace qb := qb.below b
 replace qu := qu.below b
 replace qv := qv.below b
 replace hb := bstep hb b
 clear b
 obtain ⟨cqa0, cqa1, cqa2⟩ := qa.cells
 obtain ⟨cqb0, cqb1, cqb2⟩ := qb.cells
 obtain ⟨cqu0, cqu1, cqu2⟩ := qu.cells
 obtain ⟨cqv0, cqv1, cqv2⟩ := qv.cells
 go_wp2_with fail
 clear cqa0 cqa1 cqa2 cqb0 cqb1 cqb2 cqu0 cqu1 cqu2 cqv0 cqv1 cqv2
 refine (kept3 _ nb eo bo fo bO el ec bl2 bc fl fc bL2 bC xb2 yb2 _ rc rd ub vb (Nat.le_trans HLB.out (by decide)) (Nat.le_trans HLb.out (by decide))).mono ?_
 rintro e w22 ⟨rfl, b⟩
 replace ra := ra.below b
 replace rb := rb.below b
 replace rc := rc.below b
 replace rd := rd.below b
 replace ua := ua.below (Nat.le_refl _) b
 replace va := va.below (Nat.le_refl _) b
 replace ub := ub.below (Nat.le_refl _) b
 replace vb := vb.below (Nat.le_refl _) b
 replace qa := qa.below b
 replace qb := qb.below b
 replace qu := qu.below b
 replace qv := qv.below b
 replace hb := bstep hb b
 clear b
 have HE : Hid (Below w.heap.size w w22) := hb
 clear hb qa qb qu qv ra rb rc rd ua va ub vb
 go_wp2
 go_ret
 exact ⟨rfl, HE.out⟩
open Go.RowKit

theorem num_of_ints {W : World} {x : Addr} {len cap : Nat} {zs : List Int} (hl : len ≤ cap) (hm : cap ≤ maxLen) (hz : zs.length = cap)
  (hcell : ∀ i, i < zs.length → W.cell? (x.add i) = some (.int .u32 (zs.getD i 0))) (hwz : ∀ n ∈ zs, (Lit.int .u32 n).wf = true) : ∃ xs, Num W (.slice (some x) len cap) xs := by
 have hlen : ((zs.take len).map Int.toNat).length = len := by simp; omega
 refine ⟨(zs.take len).map Int.toNat, ?_, some x, cap, by rw [hlen], by rw [hlen]; exact hl, hm, fun h => by simp at h, fun j hj => ?_⟩
 ·
  intro y hy
  obtain ⟨z, hz', rfl⟩ := List.mem_map.1 hy
  have := bounds_u32 (hwz z (List.mem_of_mem_take hz'))
  omega
 ·
  rw [hlen] at hj
  have hc := hcell j (by omega)
  obtain ⟨b, off, spot⟩ := x
  have hspot : spot = none := by
   have := World.cell?_spot (hcell 0 (by omega))
   simpa [Addr.add] using this
  subst hspot
  refine ⟨b, off, rfl, ?_⟩
  rw [Addr.add_lit] at hc
  rw [hc]
  have hjz : j < zs.length := by omega
  have hb := bounds_u32 (hwz _ (List.getElem_mem hjz))
  simp only [List.getD_eq_getElem?_getD, List.getElem?_eq_getElem hjz, List.getElem?_map, List.getElem?_take_of_lt hj, Option.map_some, Option.getD_some, U]
  rw [Int.toNat_of_nonneg hb.1]
set_option maxHeartbeats 12800000
open Go.ChangeShapes Go.WideShapes Go.ChangeAt Go.RowKit

theorem open_nat {H : Type} {enc : TypeId × Value → H} {W : World} {n : Nat} {c : Value} {y : DataW H × List MemPlace} (h : DataW.trod enc Tryz.prog W 0 (fun _ => true) true n 23 [c] = some y) : ∃ ao l cap xs, c = .slice ao l cap ∧ Num W (.slice ao l cap) xs := by
 rcases open_ints Tryz.underlying23 Tryz.underlying37 (by kernel_rfl) h with ⟨hcs, _⟩ | ⟨x, l, c, zs, hcs, _, hl, hm, hz, _, hcell, hwz⟩
 ·
  simp only [List.cons.injEq, and_true] at hcs
  exact ⟨_, _, _, [], hcs, Num.of_nil _⟩
 ·
  simp only [List.cons.injEq, and_true] at hcs
  obtain ⟨xs, hn⟩ := num_of_ints hl hm (by simpa using hz) hcell hwz
  exact ⟨_, _, _, xs, hcs, hn⟩
theorem open_rat {H : Type} {enc : TypeId × Value → H} {W : World} {b0 : Nat} {r : Reach} {v : Value} {d : DataW H} {p : List MemPlace} (hv : Value.okWide Tryz.prog W r b0 27 v) (h : DataW.Trod enc Tryz.prog W 0 (fun _ => true) true 27 v d p) :
  ∃ n ao bo al ac bl bc xs ys, v = .agg #[.bool n, .slice ao al ac, .slice bo bl bc] ∧ Num W (.slice ao al ac) xs ∧ Num W (.slice bo bl bc) ys := by
 obtain ⟨cs, rfl, hsz⟩ := okWide_struct Tryz.underlying27 hv
 obtain ⟨c0, c1, c2, rfl⟩ := Joins.array3 (hsz.trans (show Tryz.prog.cellsOf 27 = 3 by kernel_rfl))
 obtain ⟨fuel, hf⟩ := h
 obtain ⟨y0, y1, n, _, _, h0, h1⟩ := trod_struct2 Tryz.underlying27 hf
 have e0 : Tryz.prog.cellsOf 25 = 2 := by kernel_rfl
 have e1 : Tryz.prog.cellsOf 23 = 1 := by kernel_rfl
 have e2 : Tryz.prog.cellsOf 4 = 1 := by kernel_rfl
 have k0 : DataW.trod enc Tryz.prog W 0 (fun _ => true) true n 25 [c0, c1] = some y0 := by simpa [Value.cells, e0] using h0
 have k1 : DataW.trod enc Tryz.prog W 0 (fun _ => true) true n 23 [c2] = some y1 := by simpa [Value.cells, e1] using h1
 obtain ⟨z0, z1, n2, _, _, m0, m1⟩ := trod_struct2 Tryz.underlying25 k0
 have l0 : DataW.trod enc Tryz.prog W 0 (fun _ => true) true n2 4 [c0] = some z0 := by simpa [e2] using m0
 have l1 : DataW.trod enc Tryz.prog W 0 (fun _ => true) true n2 23 [c1] = some z1 := by simpa [e1] using m1
 obtain ⟨g, eg, _⟩ := DataW.trod_bool Tryz.underlying4 l0
 simp only [List.cons.injEq, and_true] at eg
 obtain ⟨ao, al, ac, xs, rfl, hx⟩ := open_nat l1
 obtain ⟨bo, bl, bc, ys, rfl, hy⟩ := open_nat k1
 subst eg
 exact ⟨g, ao, bo, al, ac, bl, bc, xs, ys, rfl, hx, hy⟩
end Go.Proofs.YtfnafgjnimfmjaaGreatDoor
