/-
  Proved here: the walk of FracLeast.
-/
import Derived.Test.YtdfmmaehmngkhaaDoorLeastAAll
import Derived.Test.YtdfmmaehmngkhaaDoorLate2
import Derived.Deep.DeepCutAuto
namespace Go.Proofs.YtdfmmaehmngkhaaDoor
open Go.RowKit
attribute [local go_sem ↓] Go.wp_at_zero Go.wp_at_succ

/-- No cell of the block holds an int. -/
theorem QCell.noint {w : World} {g : Nat} {n : Bool} {o O : Option Addr} {l c L C : Nat} (h : QCell w g n (.slice o l c) (.slice O L C)) : NoInt w g := by
  intro i k z e
  rw [cell_of_row w g _ _ _ _ h] at e
  match i, e with
  | 0, e => cases e
  | 1, e => cases e
  | 2, e => cases e
  | i + 3, e => simp at e
theorem three_other (w : World) (g : Nat) (a b c : Value) : ∀ k, k ≠ g → (((w.setCell ⟨g, 0, none⟩ a).setCell ⟨g, 1, none⟩ b).setCell ⟨g, 2, none⟩ c).heap[k]? = w.heap[k]? := by
  intro k hk
  rw [heap_setCell_other _ _ _ _ hk, heap_setCell_other _ _ _ _ hk, heap_setCell_other _ _ _ _ hk]
theorem RW.box {w w' : World} {v : Value} {a : Rat} {g : Nat} (h : RW w v a) (hg : NoInt w g) (hw : ∀ b, b ≠ g → w'.heap[b]? = w.heap[b]?) : RW w' v a := by
  obtain ⟨p, q, ⟨n, ao, al, ac, bo, bl, bc, rfl, ⟨n1, o1, l1, c1, x1, e1, u1, k1, z1⟩, ⟨o2, l2, c2, x2, e2, u2, k2, z2⟩⟩, rfl⟩ := h
  exact ⟨p, q, ⟨n, ao, al, ac, bo, bl, bc, rfl, ⟨n1, o1, l1, c1, x1, e1, u1.box hg hw, k1, z1⟩, ⟨o2, l2, c2, x2, e2, u2.box hg hw, k2, z2⟩⟩, rfl⟩
/-- A box made within a region. -/
structure PQ (W1 w : World) (v : Nat) : Prop where
  c : QCell w v false (.slice none 0 0) (.slice none 0 0)
  lt : v < w.heap.size
  ge : W1.heap.size ≤ v
theorem PQ.below {W1 w w' : World} {v : Nat} (h : PQ W1 w v) (hb : Below w.heap.size w w') : PQ W1 w' v := ⟨h.c.below hb, Nat.lt_of_lt_of_le h.lt hb.size, h.ge⟩
theorem new_pq {W1 c : World} (B : Below W1.heap.size W1 c) : ∃ wn v, c.alloc (.cells #[.bool false, .slice none 0 0, .slice none 0 0] 27) = wn ∧ c.heap.size = v ∧ PQ W1 wn v ∧ Below c.heap.size c wn ∧ Below W1.heap.size W1 wn :=
  ⟨_, _, rfl, rfl, ⟨qcell_new _ rfl, by simp, B.size⟩, belowA _ _, bstep B (belowA _ _)⟩
theorem pq_end {W1 c : World} {vx : Nat} {n : Bool} {o O : Option Addr} {l c' L C : Nat} {a : Rat} (hx : PQ W1 c vx) (h : RW c (.agg #[.bool n, .slice o l c', .slice O L C]) a) (B : Below W1.heap.size W1 c) :
    QCell (((c.setCell ⟨vx, 0, none⟩ (.bool n)).setCell ⟨vx, 1, none⟩ (.slice o l c')).setCell ⟨vx, 2, none⟩ (.slice O L C)) vx n (.slice o l c') (.slice O L C) ∧ RW (((c.setCell ⟨vx, 0, none⟩ (.bool n)).setCell ⟨vx, 1, none⟩ (.slice o l c')).setCell ⟨vx, 2, none⟩ (.slice O L C)) (.agg #[.bool n, .slice o l c', .slice O L C]) a ∧ Below W1.heap.size W1 (((c.setCell ⟨vx, 0, none⟩ (.bool n)).setCell ⟨vx, 1, none⟩ (.slice o l c')).setCell ⟨vx, 2, none⟩ (.slice O L C)) :=
  ⟨hx.c.write _ _ _, h.box hx.c.noint (three_other c vx _ _ _), ((B.setCell (p := ⟨vx, 0, none⟩) hx.ge _).setCell (p := ⟨vx, 1, none⟩) hx.ge _).setCell (p := ⟨vx, 2, none⟩) hx.ge _⟩
theorem wrap_small {d : Nat} (h : d ≤ 1000) : IntKind.u64.wrap (d : Int) = (d : Int) := by
  have e : IntKind.u64.wrap (d : Int) = (d : Int) % 18446744073709551616 := by rfl
  rw [e]; omega
theorem ncmp {w : World} {u v : Value} {xs ys : List Nat} (hu : Num w u xs) (hv : Num w v ys) : Calls Tryd.prog 19 #[u, v] w fun e w' => e = .returned (.int .i64 (cmpN (val xs) (val ys))) ∧ Below w.heap.size w w' := by
  refine (cmp_any u v xs ys w hu hv).mono ?_
  rintro e w' ⟨rfl, q, rfl⟩
  exact ⟨rfl, belowD w q⟩
theorem rsz_raw {w : World} {n : Bool} {ao bo : Option Addr} {al ac bl bc : Nat} {xs ys : List Nat} (h1 : Num w (.slice ao al ac) xs) (h2 : Num w (.slice bo bl bc) ys) (l1 : xs.length ≤ 3) (l2 : ys.length ≤ 3) : RSz (rq (zv n (val xs)) (val ys)) 3 := by
  have ib : IB w (.agg #[.bool n, .slice ao al ac]) (zv n (val xs)) 3 := ⟨_, _, _, _, _, rfl, h1, l1, rfl⟩
  have nb : NB w (.slice bo bl bc) ((val ys : Nat) : Int) 3 := ⟨_, _, _, _, rfl, h2, l2, rfl⟩
  exact RSz.of (und_ne _) ib.sz (und_sz nb.sz (by decide))
set_option maxRecDepth 100000 in
set_option maxHeartbeats 6400000 in
theorem fracLeast_no (na : Bool) (ao aO : Option Addr) (al ac aL aC : Nat) (xa ya : List Nat) (nb : Bool) (bo bO : Option Addr) (bl bc bL bC : Nat) (xb yb : List Nat) (w : World) (ua : Num w (.slice ao al ac) xa) (va : Num w (.slice aO aL aC) ya) (ub : Num w (.slice bo bl bc) xb) (vb : Num w (.slice bO bL bC) yb) (sw : Bool) (hsw : 0 < cmpQ (rq (zv na (val (xa.take (min al 3)))) (val (ya.take (min aL 3)))) (rq (zv nb (val (xb.take (min bl 3)))) (val (yb.take (min bL 3)))) ↔ sw = true) (hs : sw = false) : Calls Tryd.prog 4 #[.agg #[.bool na, .slice ao al ac, .slice aO aL aC], .agg #[.bool nb, .slice bo bl bc, .slice bO bL bC]] w fun e w' => e = .returned (.bool true) ∧ Below w.heap.size w w' := by
  subst hs
  have h1 := (num_len ua).1
  have h2 := (num_len va).1
  have ua2 := num_cut ua (k := min al 3) (Nat.min_le_left _ _)
  have va2 := num_cut va (k := min aL 3) (Nat.min_le_left _ _)
  have HLA : Hid ((xa.take (min al 3)).length ≤ 3) := by show _ ≤ _; rw [List.length_take]; omega
  have HLa : Hid ((ya.take (min aL 3)).length ≤ 3) := by show _ ≤ _; rw [List.length_take]; omega
  clear h1 h2
  have h1 := (num_len ub).1
  have h2 := (num_len vb).1
  have ub2 := num_cut ub (k := min bl 3) (Nat.min_le_left _ _)
  have vb2 := num_cut vb (k := min bL 3) (Nat.min_le_left _ _)
  have HLB : Hid ((xb.take (min bl 3)).length ≤ 3) := by show _ ≤ _; rw [List.length_take]; omega
  have HLb : Hid ((yb.take (min bL 3)).length ≤ 3) := by show _ ≤ _; rw [List.length_take]; omega
  clear h1 h2
  have HC : Hid (0 < cmpQ (rq (zv na (val (xa.take (min al 3)))) (val (ya.take (min aL 3)))) (rq (zv nb (val (xb.take (min bl 3)))) (val (yb.take (min bL 3)))) ↔ false = true) := hsw
  clear hsw
  obtain ⟨W1, hW1⟩ : ∃ W1, W1 = (w.alloc (.cells #[.bool na, .slice ao al ac, .slice aO aL aC] 27)).alloc (.cells #[.bool nb, .slice bo bl bc, .slice bO bL bC] 27) := ⟨_, rfl⟩
  have qa : QCell W1 (w.heap.size) na (.slice ao al ac) (.slice aO aL aC) := by rw [hW1]; exact (qcell_step (qcell_new _ (by simp)))
  have qb : QCell W1 (w.heap.size + 1) nb (.slice bo bl bc) (.slice bO bL bC) := by rw [hW1]; exact (qcell_new _ (by simp))
  have hb : Below w.heap.size w W1 := by rw [hW1]; exact bstep (belowA w _) (belowA _ _)
  have hsz : w.heap.size + 1 < W1.heap.size := by rw [hW1]; simp
  have HW1 : Hid (W1 = (w.alloc (.cells #[.bool na, .slice ao al ac, .slice aO aL aC] 27)).alloc (.cells #[.bool nb, .slice bo bl bc, .slice bO bL bC] 27)) := hW1
  clear hW1
  go_enter Tryd.func4, Tryd.ntmps4
  go_wp2_with fail
  rw [← HW1.out]
  clear HW1
  obtain ⟨g, hg⟩ : ∃ g, g = w.heap.size := ⟨_, rfl⟩
  rw [← hg] at qa qb hsz ⊢
  have HG : Hid (g = w.heap.size) := hg
  clear hg
  refine (l_awake).mono ?_
  rintro e w2 ⟨rfl, b⟩
  replace qa := qa.below b
  replace qb := qb.below b
  replace hb := bstep hb b
  replace hsz := Nat.lt_of_lt_of_le hsz b.size
  clear b
  obtain ⟨cqa0, cqa1, cqa2⟩ := qa.cells
  obtain ⟨cqb0, cqb1, cqb2⟩ := qb.cells
  go_wp2_with fail
  clear cqa0 cqa1 cqa2 cqb0 cqb1 cqb2
  refine (c_cut na ao aO al ac aL aC 3 xa ya _ (ua.below (Nat.le_refl _) hb) (va.below (Nat.le_refl _) hb) (by decide)).mono ?_
  rintro e w3 ⟨rfl, b⟩
  replace qa := qa.below b
  replace qb := qb.below b
  replace hb := bstep hb b
  replace hsz := Nat.lt_of_lt_of_le hsz b.size
  clear b
  generalize min al 3 = al2 at *
  generalize xa.take al2 = xa2 at *
  generalize min aL 3 = aL2 at *
  generalize ya.take aL2 = ya2 at *
  have ls8 : w.heap.size ≤ w3.heap.size := hb.size
  have hq0 : QCell (w3.alloc (.cells #[.bool false, .slice none 0 0, .slice none 0 0] 27)) w3.heap.size false (.slice none 0 0) (.slice none 0 0) := qcell_new _ rfl
  obtain ⟨W4, hW4⟩ : ∃ W, W = w3.alloc (.cells #[.bool na, .slice ao al2 ac, .slice aO aL2 aC] 27) := ⟨_, rfl⟩
  have qx : QCell W4 (w3.heap.size) na (.slice ao al2 ac) (.slice aO aL2 aC) := by rw [hW4]; exact qcell_new _ rfl
  have b : Below w3.heap.size w3 W4 := by rw [hW4]; exact belowA _ _
  obtain ⟨z0, z1, z2⟩ := hq0.cells
  have t0 := hq0.thaw 0
  have t1 := hq0.thaw 1
  have t2 := hq0.thaw 2
  clear hq0
  replace qa := qa.below b
  replace qb := qb.below b
  replace hb := bstep hb b
  replace hsz := Nat.lt_of_lt_of_le hsz b.size
  clear b
  have rqa0 : (w3.alloc (.cells #[.bool na, .slice ao al2 ac, .slice aO aL2 aC] 27)).cell? ⟨g, 0, none⟩ = some (.bool na) := by rw [← hW4]; exact qa.cells.1
  have rqa1 : (w3.alloc (.cells #[.bool na, .slice ao al2 ac, .slice aO aL2 aC] 27)).cell? ⟨g, 1, none⟩ = some (.slice ao al ac) := by rw [← hW4]; exact qa.cells.2.1
  have rqa2 : (w3.alloc (.cells #[.bool na, .slice ao al2 ac, .slice aO aL2 aC] 27)).cell? ⟨g, 2, none⟩ = some (.slice aO aL aC) := by rw [← hW4]; exact qa.cells.2.2
  have rqb0 : (w3.alloc (.cells #[.bool na, .slice ao al2 ac, .slice aO aL2 aC] 27)).cell? ⟨g + 1, 0, none⟩ = some (.bool nb) := by rw [← hW4]; exact qb.cells.1
  have rqb1 : (w3.alloc (.cells #[.bool na, .slice ao al2 ac, .slice aO aL2 aC] 27)).cell? ⟨g + 1, 1, none⟩ = some (.slice bo bl bc) := by rw [← hW4]; exact qb.cells.2.1
  have rqb2 : (w3.alloc (.cells #[.bool na, .slice ao al2 ac, .slice aO aL2 aC] 27)).cell? ⟨g + 1, 2, none⟩ = some (.slice bO bL bC) := by rw [← hW4]; exact qb.cells.2.2
  have rqx0 : (w3.alloc (.cells #[.bool na, .slice ao al2 ac, .slice aO aL2 aC] 27)).cell? ⟨w3.heap.size, 0, none⟩ = some (.bool na) := by rw [← hW4]; exact qx.cells.1
  have rqx1 : (w3.alloc (.cells #[.bool na, .slice ao al2 ac, .slice aO aL2 aC] 27)).cell? ⟨w3.heap.size, 1, none⟩ = some (.slice ao al2 ac) := by rw [← hW4]; exact qx.cells.2.1
  have rqx2 : (w3.alloc (.cells #[.bool na, .slice ao al2 ac, .slice aO aL2 aC] 27)).cell? ⟨w3.heap.size, 2, none⟩ = some (.slice aO aL2 aC) := by rw [← hW4]; exact qx.cells.2.2
  obtain ⟨v4, hv4⟩ : ∃ v, v = w3.heap.size := ⟨_, rfl⟩
  rw [← hv4] at qx
  have HW4 : Hid (W4 = w3.alloc (.cells #[.bool na, .slice ao al2 ac, .slice aO aL2 aC] 27)) := hW4
  have Hv4 : Hid (v4 = w3.heap.size) := hv4
  clear hW4 hv4
  go_wp2_with fail
  rw [← HW4.out, ← Hv4.out]
  have hwx : w.heap.size ≤ v4 := by rw [Hv4.out]; exact ls8
  clear ls8
  clear HW4 Hv4 z0 t0 z1 t1 z2 t2 rqa0 rqa1 rqa2 rqb0 rqb1 rqb2 rqx0 rqx1 rqx2 
  refine (c_cut nb bo bO bl bc bL bC 3 xb yb _ (ub.below (Nat.le_refl _) hb) (vb.below (Nat.le_refl _) hb) (by decide)).mono ?_
  rintro e w5 ⟨rfl, b⟩
  replace qa := qa.below b
  replace qb := qb.below b
  replace qx := qx.below b
  replace hb := bstep hb b
  replace hsz := Nat.lt_of_lt_of_le hsz b.size
  clear b
  generalize min bl 3 = bl2 at *
  generalize xb.take bl2 = xb2 at *
  generalize min bL 3 = bL2 at *
  generalize yb.take bL2 = yb2 at *
  have lx9 : v4 < w5.heap.size := (Array.getElem?_eq_some_iff.1 (show w5.heap[v4]? = _ from qx)).1
  have ls9 : w.heap.size ≤ w5.heap.size := hb.size
  have hq0 : QCell (w5.alloc (.cells #[.bool false, .slice none 0 0, .slice none 0 0] 27)) w5.heap.size false (.slice none 0 0) (.slice none 0 0) := qcell_new _ rfl
  obtain ⟨W6, hW6⟩ : ∃ W, W = w5.alloc (.cells #[.bool nb, .slice bo bl2 bc, .slice bO bL2 bC] 27) := ⟨_, rfl⟩
  have qy : QCell W6 (w5.heap.size) nb (.slice bo bl2 bc) (.slice bO bL2 bC) := by rw [hW6]; exact qcell_new _ rfl
  have b : Below w5.heap.size w5 W6 := by rw [hW6]; exact belowA _ _
  obtain ⟨z0, z1, z2⟩ := hq0.cells
  have t0 := hq0.thaw 0
  have t1 := hq0.thaw 1
  have t2 := hq0.thaw 2
  clear hq0
  replace qa := qa.below b
  replace qb := qb.below b
  replace qx := qx.below b
  replace hb := bstep hb b
  replace hsz := Nat.lt_of_lt_of_le hsz b.size
  clear b
  have rqa0 : (w5.alloc (.cells #[.bool nb, .slice bo bl2 bc, .slice bO bL2 bC] 27)).cell? ⟨g, 0, none⟩ = some (.bool na) := by rw [← hW6]; exact qa.cells.1
  have rqa1 : (w5.alloc (.cells #[.bool nb, .slice bo bl2 bc, .slice bO bL2 bC] 27)).cell? ⟨g, 1, none⟩ = some (.slice ao al ac) := by rw [← hW6]; exact qa.cells.2.1
  have rqa2 : (w5.alloc (.cells #[.bool nb, .slice bo bl2 bc, .slice bO bL2 bC] 27)).cell? ⟨g, 2, none⟩ = some (.slice aO aL aC) := by rw [← hW6]; exact qa.cells.2.2
  have rqb0 : (w5.alloc (.cells #[.bool nb, .slice bo bl2 bc, .slice bO bL2 bC] 27)).cell? ⟨g + 1, 0, none⟩ = some (.bool nb) := by rw [← hW6]; exact qb.cells.1
  have rqb1 : (w5.alloc (.cells #[.bool nb, .slice bo bl2 bc, .slice bO bL2 bC] 27)).cell? ⟨g + 1, 1, none⟩ = some (.slice bo bl bc) := by rw [← hW6]; exact qb.cells.2.1
  have rqb2 : (w5.alloc (.cells #[.bool nb, .slice bo bl2 bc, .slice bO bL2 bC] 27)).cell? ⟨g + 1, 2, none⟩ = some (.slice bO bL bC) := by rw [← hW6]; exact qb.cells.2.2
  have rqx0 : (w5.alloc (.cells #[.bool nb, .slice bo bl2 bc, .slice bO bL2 bC] 27)).cell? ⟨v4, 0, none⟩ = some (.bool na) := by rw [← hW6]; exact qx.cells.1
  have rqx1 : (w5.alloc (.cells #[.bool nb, .slice bo bl2 bc, .slice bO bL2 bC] 27)).cell? ⟨v4, 1, none⟩ = some (.slice ao al2 ac) := by rw [← hW6]; exact qx.cells.2.1
  have rqx2 : (w5.alloc (.cells #[.bool nb, .slice bo bl2 bc, .slice bO bL2 bC] 27)).cell? ⟨v4, 2, none⟩ = some (.slice aO aL2 aC) := by rw [← hW6]; exact qx.cells.2.2
  have rqy0 : (w5.alloc (.cells #[.bool nb, .slice bo bl2 bc, .slice bO bL2 bC] 27)).cell? ⟨w5.heap.size, 0, none⟩ = some (.bool nb) := by rw [← hW6]; exact qy.cells.1
  have rqy1 : (w5.alloc (.cells #[.bool nb, .slice bo bl2 bc, .slice bO bL2 bC] 27)).cell? ⟨w5.heap.size, 1, none⟩ = some (.slice bo bl2 bc) := by rw [← hW6]; exact qy.cells.2.1
  have rqy2 : (w5.alloc (.cells #[.bool nb, .slice bo bl2 bc, .slice bO bL2 bC] 27)).cell? ⟨w5.heap.size, 2, none⟩ = some (.slice bO bL2 bC) := by rw [← hW6]; exact qy.cells.2.2
  obtain ⟨v6, hv6⟩ : ∃ v, v = w5.heap.size := ⟨_, rfl⟩
  rw [← hv6] at qy
  have HW6 : Hid (W6 = w5.alloc (.cells #[.bool nb, .slice bo bl2 bc, .slice bO bL2 bC] 27)) := hW6
  have Hv6 : Hid (v6 = w5.heap.size) := hv6
  clear hW6 hv6
  go_wp2_with fail
  rw [← HW6.out, ← Hv6.out]
  have hne : v4 ≠ v6 := by rw [Hv6.out]; omega
  have hwy : w.heap.size ≤ v6 := by rw [Hv6.out]; exact ls9
  clear lx9 ls9
  clear HW6 Hv6 z0 t0 z1 t1 z2 t2 rqa0 rqa1 rqa2 rqb0 rqb1 rqb2 rqx0 rqx1 rqx2 rqy0 rqy1 rqy2 
  have v1 := RV.of (n := na) (ua2.below (Nat.le_refl _) hb) (va2.below (Nat.le_refl _) hb) (Nat.le_trans HLA.out (by decide)) (Nat.le_trans HLa.out (by decide))
  have v2 := RV.of (n := nb) (ub2.below (Nat.le_refl _) hb) (vb2.below (Nat.le_refl _) hb) (Nat.le_trans HLB.out (by decide)) (Nat.le_trans HLb.out (by decide))
  have hX : RW W6 (.agg #[.bool na, .slice ao al2 ac, .slice aO aL2 aC]) _ := ⟨_, _, v1, rfl⟩
  have hY : RW W6 (.agg #[.bool nb, .slice bo bl2 bc, .slice bO bL2 bC]) _ := ⟨_, _, v2, rfl⟩
  have HS1 : Hid (RSz (rq (zv na (val xa2)) (val ya2)) 3) := rsz_raw ua2 va2 HLA.out HLa.out
  have HS2 : Hid (RSz (rq (zv nb (val xb2)) (val yb2)) 3) := rsz_raw ub2 vb2 HLB.out HLb.out
  clear v1 v2 ua va ub vb ua2 va2 ub2 vb2 HLA HLa HLB HLb
  generalize rq (zv na (val xa2)) (val ya2) = A at *
  generalize rq (zv nb (val xb2)) (val yb2) = B at *
  clear qa qb
  have hc0 : ¬ 0 < cmpQ A B := fun h => by have := HC.out.1 h; cases this
  have HNC : Hid (cmpQ A B ≤ 0) := by show _ ≤ _; omega
  clear hc0 HC
  have hq := wCmp hX hY
  obtain ⟨c, hc⟩ : ∃ c, c = cmpQ A B := ⟨_, rfl⟩
  have hcc : ¬ 0 < c := by rw [hc]; have := HNC.out; omega
  rw [← hc] at hq
  clear hc
  refine (hq).mono ?_
  rintro e w7 ⟨rfl, b⟩
  clear hq
  replace hX := hX.below b
  replace hY := hY.below b
  replace qx := qx.below b
  replace qy := qy.below b
  replace hb := bstep hb b
  replace hsz := Nat.lt_of_lt_of_le hsz b.size
  clear b
  obtain ⟨cqx0, cqx1, cqx2⟩ := qx.cells
  obtain ⟨cqy0, cqy1, cqy2⟩ := qy.cells
  go_wp2_with fail
  clear cqx0 cqx1 cqx2 cqy0 cqy1 cqy2
  have HAB : Hid (A.num * B.den ≤ B.num * A.den) := cmpQ_le (by have := HNC.out; omega)
  have HSS : Hid (RSz (spQ A B) 3) := RSz.sp HAB.out HS1.out
  obtain ⟨S, hS⟩ : ∃ S, S = spQ A B := ⟨_, rfl⟩
  have HSP : Hid (S = spQ A B) := hS
  have hq := wSimplest hX hY (by have := HNC.out; omega)
  rw [← hS] at hq HSS
  clear hS
  refine (hq).mono ?_
  rintro e w8 ⟨v, rfl, hv, b⟩
  clear hq
  obtain ⟨m, d, rfl, hm, hd, hap⟩ := id hv
  obtain ⟨so, sl, sc, rfl⟩ := hm.sl
  obtain ⟨sO, sL, sC, rfl⟩ := hd.sl
  have hdn := hd.num
  clear hm hd hap
  generalize decide (S.num < 0) = bs at *
  replace hX := hX.below b
  replace hY := hY.below b
  replace qx := qx.below b
  replace qy := qy.below b
  replace hb := bstep hb b
  replace hsz := Nat.lt_of_lt_of_le hsz b.size
  clear b
  have hq0 : QCell (w8.alloc (.cells #[.bool false, .slice none 0 0, .slice none 0 0] 27)) w8.heap.size false (.slice none 0 0) (.slice none 0 0) := qcell_new _ rfl
  obtain ⟨W9, hW9⟩ : ∃ W, W = w8.alloc (.cells #[.bool bs, .slice so sl sc, .slice sO sL sC] 27) := ⟨_, rfl⟩
  have qs : QCell W9 (w8.heap.size) bs (.slice so sl sc) (.slice sO sL sC) := by rw [hW9]; exact qcell_new _ rfl
  have b : Below w8.heap.size w8 W9 := by rw [hW9]; exact belowA _ _
  obtain ⟨z0, z1, z2⟩ := hq0.cells
  have t0 := hq0.thaw 0
  have t1 := hq0.thaw 1
  have t2 := hq0.thaw 2
  clear hq0
  replace hX := hX.below b
  replace hY := hY.below b
  replace hv := hv.below b
  replace hdn := hdn.below (Nat.le_refl _) b
  replace qx := qx.below b
  replace qy := qy.below b
  replace hb := bstep hb b
  replace hsz := Nat.lt_of_lt_of_le hsz b.size
  clear b
  have rqx0 : (w8.alloc (.cells #[.bool bs, .slice so sl sc, .slice sO sL sC] 27)).cell? ⟨v4, 0, none⟩ = some (.bool na) := by rw [← hW9]; exact qx.cells.1
  have rqx1 : (w8.alloc (.cells #[.bool bs, .slice so sl sc, .slice sO sL sC] 27)).cell? ⟨v4, 1, none⟩ = some (.slice ao al2 ac) := by rw [← hW9]; exact qx.cells.2.1
  have rqx2 : (w8.alloc (.cells #[.bool bs, .slice so sl sc, .slice sO sL sC] 27)).cell? ⟨v4, 2, none⟩ = some (.slice aO aL2 aC) := by rw [← hW9]; exact qx.cells.2.2
  have rqy0 : (w8.alloc (.cells #[.bool bs, .slice so sl sc, .slice sO sL sC] 27)).cell? ⟨v6, 0, none⟩ = some (.bool nb) := by rw [← hW9]; exact qy.cells.1
  have rqy1 : (w8.alloc (.cells #[.bool bs, .slice so sl sc, .slice sO sL sC] 27)).cell? ⟨v6, 1, none⟩ = some (.slice bo bl2 bc) := by rw [← hW9]; exact qy.cells.2.1
  have rqy2 : (w8.alloc (.cells #[.bool bs, .slice so sl sc, .slice sO sL sC] 27)).cell? ⟨v6, 2, none⟩ = some (.slice bO bL2 bC) := by rw [← hW9]; exact qy.cells.2.2
  have rqs0 : (w8.alloc (.cells #[.bool bs, .slice so sl sc, .slice sO sL sC] 27)).cell? ⟨w8.heap.size, 0, none⟩ = some (.bool bs) := by rw [← hW9]; exact qs.cells.1
  have rqs1 : (w8.alloc (.cells #[.bool bs, .slice so sl sc, .slice sO sL sC] 27)).cell? ⟨w8.heap.size, 1, none⟩ = some (.slice so sl sc) := by rw [← hW9]; exact qs.cells.2.1
  have rqs2 : (w8.alloc (.cells #[.bool bs, .slice so sl sc, .slice sO sL sC] 27)).cell? ⟨w8.heap.size, 2, none⟩ = some (.slice sO sL sC) := by rw [← hW9]; exact qs.cells.2.2
  obtain ⟨v9, hv9⟩ : ∃ v, v = w8.heap.size := ⟨_, rfl⟩
  rw [← hv9] at qs
  have HW9 : Hid (W9 = w8.alloc (.cells #[.bool bs, .slice so sl sc, .slice sO sL sC] 27)) := hW9
  have Hv9 : Hid (v9 = w8.heap.size) := hv9
  clear hW9 hv9
  go_wp2_with fail
  rw [← HW9.out, ← Hv9.out]
  clear HW9 Hv9 z0 t0 z1 t1 z2 t2 rqx0 rqx1 rqx2 rqy0 rqy1 rqy2 rqs0 rqs1 rqs2 
  refine (l_lowest hv.std HSS.out (by decide)).mono ?_
  rintro e w10 ⟨rfl, b⟩
  replace hX := hX.below b
  replace hY := hY.below b
  replace hv := hv.below b
  replace hdn := hdn.below (Nat.le_refl _) b
  replace qx := qx.below b
  replace qy := qy.below b
  replace qs := qs.below b
  replace hb := bstep hb b
  replace hsz := Nat.lt_of_lt_of_le hsz b.size
  clear b
  obtain ⟨cqx0, cqx1, cqx2⟩ := qx.cells
  obtain ⟨cqy0, cqy1, cqy2⟩ := qy.cells
  obtain ⟨cqs0, cqs1, cqs2⟩ := qs.cells
  go_wp2_with fail
  clear cqx0 cqx1 cqx2 cqy0 cqy1 cqy2 cqs0 cqs1 cqs2
  have hW := hv.rw (HSS.out.mono (by decide))
  have hl := (sp_lies HAB.out)
  rw [← HSP.out] at hl
  have hc1 : ¬ cmpQ S A < 0 := by rw [cmpQ_nn]; omega
  have hc2 : ¬ 0 < cmpQ S B := by rw [cmpQ_pp]; omega
  have HC1 : Hid (¬ cmpQ S A < 0 ∧ ¬ 0 < cmpQ S B) := ⟨hc1, hc2⟩
  clear hl hc1 hc2
  have hq := wCmp hW hX
  obtain ⟨c, hc⟩ : ∃ c, c = cmpQ S A := ⟨_, rfl⟩
  have hcc : ¬ c < 0 := by rw [hc]; have := HC1.out.1; omega
  rw [← hc] at hq
  clear hc
  refine (hq).mono ?_
  rintro e w11 ⟨rfl, b⟩
  clear hq
  replace hX := hX.below b
  replace hY := hY.below b
  replace hv := hv.below b
  replace hdn := hdn.below (Nat.le_refl _) b
  replace hW := hW.below b
  replace qx := qx.below b
  replace qy := qy.below b
  replace qs := qs.below b
  replace hb := bstep hb b
  replace hsz := Nat.lt_of_lt_of_le hsz b.size
  clear b
  obtain ⟨cqx0, cqx1, cqx2⟩ := qx.cells
  obtain ⟨cqy0, cqy1, cqy2⟩ := qy.cells
  obtain ⟨cqs0, cqs1, cqs2⟩ := qs.cells
  go_wp2_with fail
  clear cqx0 cqx1 cqx2 cqy0 cqy1 cqy2 cqs0 cqs1 cqs2
  skip
  have hq := wCmp hW hY
  obtain ⟨c, hc⟩ : ∃ c, c = cmpQ S B := ⟨_, rfl⟩
  have hcc : ¬ 0 < c := by rw [hc]; have := HC1.out.2; omega
  rw [← hc] at hq
  clear hc
  refine (hq).mono ?_
  rintro e w12 ⟨rfl, b⟩
  clear hq
  replace hX := hX.below b
  replace hY := hY.below b
  replace hv := hv.below b
  replace hdn := hdn.below (Nat.le_refl _) b
  replace hW := hW.below b
  replace qx := qx.below b
  replace qy := qy.below b
  replace qs := qs.below b
  replace hb := bstep hb b
  replace hsz := Nat.lt_of_lt_of_le hsz b.size
  clear b
  obtain ⟨cqx0, cqx1, cqx2⟩ := qx.cells
  obtain ⟨cqy0, cqy1, cqy2⟩ := qy.cells
  obtain ⟨cqs0, cqs1, cqs2⟩ := qs.cells
  go_wp2_with fail
  clear cqx0 cqx1 cqx2 cqy0 cqy1 cqy2 cqs0 cqs1 cqs2
  skip
  go_loopw [11] (fun t wr => ∃ d : Nat, 1 ≤ d ∧ d ≤ 201 ∧ t = .int .i64 d ∧ Below w12.heap.size w12 wr) (fun t _ => 201 - (intOf t).toNat)
  case atStart => exact ⟨1, by decide, by decide, rfl, Below.refl _ _⟩
  case round =>
    obtain ⟨d, h1, h2, rfl, b⟩ := hrel
    have hb0 := b
    replace hX := hX.below b
    replace hY := hY.below b
    replace hv := hv.below b
    replace hdn := hdn.below (Nat.le_refl _) b
    replace hW := hW.below b
    replace qx := qx.below b
    replace qy := qy.below b
    replace qs := qs.below b
    replace hb := bstep hb b
    replace hsz := Nat.lt_of_lt_of_le hsz b.size
    clear b
    by_cases hd2 : d ≤ 200
    · have hdi : (d : Int) ≤ 200 := by omega
      obtain ⟨cqx0, cqx1, cqx2⟩ := qx.cells
      obtain ⟨cqy0, cqy1, cqy2⟩ := qy.cells
      obtain ⟨cqs0, cqs1, cqs2⟩ := qs.cells
      go_wp2_with fail
      clear cqx0 cqx1 cqx2 cqy0 cqy1 cqy2 cqs0 cqs1 cqs2
      have hq := c_fof (n := (d : Int)) (d := 1) (w := wr) (by omega) (by omega) (by decide) (by decide) (by decide)
      obtain ⟨D, hD⟩ : ∃ D, D = Rat.divInt (d : Int) 1 := ⟨_, rfl⟩
      have HD : Hid (D = Rat.divInt (d : Int) 1) := hD
      have HDS : Hid (RSz D 1) := by show RSz _ _; rw [hD]; exact RSz.of (by decide) ⟨by rw [Int.natAbs_natCast]; omega⟩ Sz.one
      rw [← hD] at hq
      clear hD
      refine (hq).mono ?_
      rintro e w213 ⟨v, rfl, hvd, b⟩
      clear hq
      obtain ⟨m, d9, rfl, hm, hd9, hap⟩ := id hvd
      obtain ⟨eo, el, ec, rfl⟩ := hm.sl
      obtain ⟨eO, eL, eC, rfl⟩ := hd9.sl
      clear hm hd9 hap
      generalize decide (D.num < 0) = bd at *
      replace hX := hX.below b
      replace hY := hY.below b
      replace hv := hv.below b
      replace hdn := hdn.below (Nat.le_refl _) b
      replace hW := hW.below b
      replace hb0 := bstep hb0 b
      replace qx := qx.below b
      replace qy := qy.below b
      replace qs := qs.below b
      replace hb := bstep hb b
      replace hsz := Nat.lt_of_lt_of_le hsz b.size
      clear b
      have hq0 : QCell (w213.alloc (.cells #[.bool false, .slice none 0 0, .slice none 0 0] 27)) w213.heap.size false (.slice none 0 0) (.slice none 0 0) := qcell_new _ rfl
      obtain ⟨W214, hW214⟩ : ∃ W, W = w213.alloc (.cells #[.bool bd, .slice eo el ec, .slice eO eL eC] 27) := ⟨_, rfl⟩
      have qd : QCell W214 (w213.heap.size) bd (.slice eo el ec) (.slice eO eL eC) := by rw [hW214]; exact qcell_new _ rfl
      have b : Below w213.heap.size w213 W214 := by rw [hW214]; exact belowA _ _
      obtain ⟨z0, z1, z2⟩ := hq0.cells
      have t0 := hq0.thaw 0
      have t1 := hq0.thaw 1
      have t2 := hq0.thaw 2
      clear hq0
      replace hX := hX.below b
      replace hY := hY.below b
      replace hv := hv.below b
      replace hdn := hdn.below (Nat.le_refl _) b
      replace hW := hW.below b
      replace hb0 := bstep hb0 b
      replace hvd := hvd.below b
      replace qx := qx.below b
      replace qy := qy.below b
      replace qs := qs.below b
      replace hb := bstep hb b
      replace hsz := Nat.lt_of_lt_of_le hsz b.size
      clear b
      have rqx0 : (w213.alloc (.cells #[.bool bd, .slice eo el ec, .slice eO eL eC] 27)).cell? ⟨v4, 0, none⟩ = some (.bool na) := by rw [← hW214]; exact qx.cells.1
      have rqx1 : (w213.alloc (.cells #[.bool bd, .slice eo el ec, .slice eO eL eC] 27)).cell? ⟨v4, 1, none⟩ = some (.slice ao al2 ac) := by rw [← hW214]; exact qx.cells.2.1
      have rqx2 : (w213.alloc (.cells #[.bool bd, .slice eo el ec, .slice eO eL eC] 27)).cell? ⟨v4, 2, none⟩ = some (.slice aO aL2 aC) := by rw [← hW214]; exact qx.cells.2.2
      have rqy0 : (w213.alloc (.cells #[.bool bd, .slice eo el ec, .slice eO eL eC] 27)).cell? ⟨v6, 0, none⟩ = some (.bool nb) := by rw [← hW214]; exact qy.cells.1
      have rqy1 : (w213.alloc (.cells #[.bool bd, .slice eo el ec, .slice eO eL eC] 27)).cell? ⟨v6, 1, none⟩ = some (.slice bo bl2 bc) := by rw [← hW214]; exact qy.cells.2.1
      have rqy2 : (w213.alloc (.cells #[.bool bd, .slice eo el ec, .slice eO eL eC] 27)).cell? ⟨v6, 2, none⟩ = some (.slice bO bL2 bC) := by rw [← hW214]; exact qy.cells.2.2
      have rqs0 : (w213.alloc (.cells #[.bool bd, .slice eo el ec, .slice eO eL eC] 27)).cell? ⟨v9, 0, none⟩ = some (.bool bs) := by rw [← hW214]; exact qs.cells.1
      have rqs1 : (w213.alloc (.cells #[.bool bd, .slice eo el ec, .slice eO eL eC] 27)).cell? ⟨v9, 1, none⟩ = some (.slice so sl sc) := by rw [← hW214]; exact qs.cells.2.1
      have rqs2 : (w213.alloc (.cells #[.bool bd, .slice eo el ec, .slice eO eL eC] 27)).cell? ⟨v9, 2, none⟩ = some (.slice sO sL sC) := by rw [← hW214]; exact qs.cells.2.2
      have rqd0 : (w213.alloc (.cells #[.bool bd, .slice eo el ec, .slice eO eL eC] 27)).cell? ⟨w213.heap.size, 0, none⟩ = some (.bool bd) := by rw [← hW214]; exact qd.cells.1
      have rqd1 : (w213.alloc (.cells #[.bool bd, .slice eo el ec, .slice eO eL eC] 27)).cell? ⟨w213.heap.size, 1, none⟩ = some (.slice eo el ec) := by rw [← hW214]; exact qd.cells.2.1
      have rqd2 : (w213.alloc (.cells #[.bool bd, .slice eo el ec, .slice eO eL eC] 27)).cell? ⟨w213.heap.size, 2, none⟩ = some (.slice eO eL eC) := by rw [← hW214]; exact qd.cells.2.2
      obtain ⟨v214, hv214⟩ : ∃ v, v = w213.heap.size := ⟨_, rfl⟩
      rw [← hv214] at qd
      have HW214 : Hid (W214 = w213.alloc (.cells #[.bool bd, .slice eo el ec, .slice eO eL eC] 27)) := hW214
      have Hv214 : Hid (v214 = w213.heap.size) := hv214
      clear hW214 hv214
      go_wp2_with fail
      rw [← HW214.out, ← Hv214.out]
      clear HW214 Hv214 z0 t0 z1 t1 z2 t2 rqx0 rqx1 rqx2 rqy0 rqy1 rqy2 rqs0 rqs1 rqs2 rqd0 rqd1 rqd2 
      have hwr : IntKind.u64.wrap (d : Int) = (d : Int) := wrap_small (by omega)
      by_cases hge : S.den ≤ d
      · have KEEP : ∀ u, Below W214.heap.size W214 u → AllL u [(4, fun w' => w'.cell? ⟨v9, 2, none⟩ = some (.slice sO sL sC))] := fun u B => ⟨(qs.below B).cells.2.2, trivial⟩
        refine region_late [(4, fun w' => w'.cell? ⟨v9, 2, none⟩ = some (.slice sO sL sC))] (by kernel_rfl) ?_
        have BZ : Below W214.heap.size W214 W214.drew := below_drew' _
        obtain ⟨wz, hwz⟩ : ∃ u, u = W214.drew := ⟨_, rfl⟩
        rw [← hwz] at BZ ⊢
        clear hwz
        have hHeld := KEEP _ BZ
        have khdn := hdn.below (Nat.le_refl _) BZ
        refine late_fr 0 (v := .int .i64 (d : Int)) rfl (Or.inl ⟨by rfl, ?_⟩) hHeld ?_
        · (intro u _; go_simp)
        (try simp only [Act.put, putA, putB, putC])
        refine late_fr 1 (v := .int .u64 (d : Int)) rfl (Or.inl ⟨by rfl, ?_⟩) hHeld ?_
        · (intro u _; go_simp)
        (try simp only [Act.put, putA, putB, putC])
        refine late_fr 3 (v := .pointer (some ⟨v9, 2, none⟩)) rfl (Or.inl ⟨by rfl, ?_⟩) hHeld ?_
        · (intro u _; go_simp)
        (try simp only [Act.put, putA, putB, putC])
        refine late_tk 4 (v := .slice sO sL sC) rfl (List.Mem.head _) (Or.inl ⟨by rfl, ?_⟩) hHeld ?_
        · (intro u hu; (try dsimp only at hu); go_split_ands; go_simp)
        (try simp only [Act.put, putA, putB, putC])
        refine late_st 2 rfl (fun K hK => ?_)
        go_simp
        refine (of_any d _ (by omega)).mono ?_
        rintro e w315 ⟨v, rfl, ho, b315⟩
        obtain ⟨xo, xl, xc, rfl⟩ := ho.sl
        have hn := ho.num
        clear ho
        replace khdn := khdn.below (Nat.le_refl _) b315
        have B315 : Below W214.heap.size W214 w315 := bstep BZ b315
        clear BZ b315
        replace hHeld := KEEP _ B315
        go_wp2_with fail
        refine hK.out _ _ (AllL.kept hHeld) ?_
        clear hK K
        (try simp only [Act.put, putA, putB, putC])
        have hq := ncmp hn (khdn.below (Nat.le_refl _) (Below.refl _ _))
        rw [val_lim, val_lim] at hq
        obtain ⟨c, hc⟩ : ∃ c, c = cmpN d S.den := ⟨_, rfl⟩
        have hcc : 0 ≤ c := by rw [hc]; unfold cmpN; split <;> (try split) <;> omega
        rw [← hc] at hq
        clear hc
        refine late_st 5 rfl (fun K hK => ?_)
        go_simp
        refine (hq).mono ?_
        rintro e w316 ⟨rfl, b316⟩
        clear hq hn
        have B316 : Below W214.heap.size W214 w316 := bstep B315 b316
        clear B315 b316
        replace hHeld := KEEP _ B316
        go_wp2_with fail
        refine hK.out _ _ (AllL.kept hHeld) ?_
        clear hK K
        (try simp only [Act.put, putA, putB, putC])
        refine late_st 6 rfl (fun K hK => ?_)
        go_simp
        refine hK.out _ _ (AllL.kept hHeld) ?_
        clear hK K
        (try simp only [Act.put, putA, putB, putC])
        refine late_done (by kernel_rfl) ?_ _
        clear KEEP hHeld khdn
        have b := B316
        clear B316
        replace hX := hX.below b
        replace hY := hY.below b
        replace hv := hv.below b
        replace hdn := hdn.below (Nat.le_refl _) b
        replace hW := hW.below b
        replace hb0 := bstep hb0 b
        replace hvd := hvd.below b
        replace qx := qx.below b
        replace qy := qy.below b
        replace qs := qs.below b
        replace qd := qd.below b
        replace hb := bstep hb b
        replace hsz := Nat.lt_of_lt_of_le hsz b.size
        clear b
        obtain ⟨cqx0, cqx1, cqx2⟩ := qx.cells
        obtain ⟨cqy0, cqy1, cqy2⟩ := qy.cells
        obtain ⟨cqs0, cqs1, cqs2⟩ := qs.cells
        obtain ⟨cqd0, cqd1, cqd2⟩ := qd.cells
        go_wp2_with fail
        clear cqx0 cqx1 cqx2 cqy0 cqy1 cqy2 cqs0 cqs1 cqs2 cqd0 cqd1 cqd2
        have hq := wSign hW
        obtain ⟨c, hc⟩ : ∃ c, c = sgnQ S := ⟨_, rfl⟩
        have HCS : Hid (c = sgnQ S) := hc
        rw [← hc] at hq
        clear hc
        refine (hq).mono ?_
        rintro e w317 ⟨rfl, b⟩
        clear hq
        replace hX := hX.below b
        replace hY := hY.below b
        replace hv := hv.below b
        replace hdn := hdn.below (Nat.le_refl _) b
        replace hW := hW.below b
        replace hb0 := bstep hb0 b
        replace hvd := hvd.below b
        replace qx := qx.below b
        replace qy := qy.below b
        replace qs := qs.below b
        replace qd := qd.below b
        replace hb := bstep hb b
        replace hsz := Nat.lt_of_lt_of_le hsz b.size
        clear b
        by_cases hz : c = 0
        · have HE : Hid (Below w.heap.size w w317) := hb
          clear hb hsz qx qy qs qd hX hY hv hdn hW hb0 hvd
          go_wp2
          go_ret
          exact ⟨rfl, HE.out⟩
        · obtain ⟨cqx0, cqx1, cqx2⟩ := qx.cells
          obtain ⟨cqy0, cqy1, cqy2⟩ := qy.cells
          obtain ⟨cqs0, cqs1, cqs2⟩ := qs.cells
          obtain ⟨cqd0, cqd1, cqd2⟩ := qd.cells
          go_wp2_with fail
          clear cqx0 cqx1 cqx2 cqy0 cqy1 cqy2 cqs0 cqs1 cqs2 cqd0 cqd1 cqd2
          have HCB : Hid ((c = 1 ∧ 0 < S.num) ∨ (c = -1 ∧ S.num < 0)) := by
            have h := HCS.out
            unfold sgnQ cmpZ at h
            split at h
            · exact Or.inr ⟨h, by assumption⟩
            · split at h
              · exact absurd h hz
              · exact Or.inl ⟨h, by omega⟩
          have HBD : Hid (-9223372036854775808 ≤ c ∧ c ≤ 9223372036854775807 ∧ Sz c 1) := by
            rcases HCB.out with h | h
            · rw [h.1]; exact ⟨by decide, by decide, Sz.one⟩
            · rw [h.1]; exact ⟨by decide, by decide, Sz.one.neg⟩
          obtain ⟨T, hT⟩ : ∃ T, T = Rat.divInt c (S.den : Int) := ⟨_, rfl⟩
          have HT : Hid (Rat.divInt c (S.den : Int) = T) := hT.symm
          have hdz : (S.den : Int) ≠ 0 := by have := S.den_pos; omega
          have HTS : Hid (RSz T 3) := by show RSz _ _; rw [hT]; exact RSz.of hdz (HBD.out.2.2.mono (by decide)) HSS.out.den
          have HDL : Hid ((lim S.den).length ≤ 1000000) := by have := HSS.out.den.len; rw [Int.natAbs_natCast] at this; exact Nat.le_trans this (by decide)
          have HDZ : Hid ((S.den : Int) ≠ 0) := hdz
          clear hT hdz
          go_cut [16, 17] (fun t u wx => ∃ v n o l c O L C, t = .pointer (some ⟨v, 0, none⟩) ∧ u = .int .i64 0 ∧ QCell wx v n (.slice o l c) (.slice O L C) ∧ RW wx (.agg #[.bool n, .slice o l c, .slice O L C]) T ∧ Below w317.heap.size w317 wx)
          case first =>
            have KEEP : ∀ u, Below w317.heap.size w317 u → L2.AllL u [(0, fun w' => w'.cell? ⟨v9, 0, none⟩ = some (.bool bs) ∧ w'.cell? ⟨v9, 1, none⟩ = some (.slice so sl sc) ∧ w'.cell? ⟨v9, 2, none⟩ = some (.slice sO sL sC)), (4, fun w' => w'.cell? ⟨v9, 2, none⟩ = some (.slice sO sL sC))] := fun u B => ⟨(qs.below B).cells, (qs.below B).cells.2.2, trivial⟩
            refine L2.region_late [(0, fun w' => w'.cell? ⟨v9, 0, none⟩ = some (.bool bs) ∧ w'.cell? ⟨v9, 1, none⟩ = some (.slice so sl sc) ∧ w'.cell? ⟨v9, 2, none⟩ = some (.slice sO sL sC)), (4, fun w' => w'.cell? ⟨v9, 2, none⟩ = some (.slice sO sL sC))] (by kernel_rfl) ?_
            have B0 : Below w317.heap.size w317 w317.drew := below_drew' _
            obtain ⟨w0, hw0⟩ : ∃ u, u = w317.drew := ⟨_, rfl⟩
            rw [← hw0] at B0 ⊢
            clear hw0
            have hHeld := KEEP _ B0
            have kW := hW.below B0
            have kd := hdn.below (Nat.le_refl _) B0
            refine L2.late_take 0 (v := .agg #[.bool bs, .slice so sl sc, .slice sO sL sC]) rfl (by kernel_rfl) (List.Mem.head _) (by kernel_rfl) (by kernel_rfl) (by kernel_rfl) (by kernel_rfl) (fun _ _ _ h => h) (Or.inl ⟨by rfl, ?_⟩) hHeld ?_
            · (intro u hu; (try dsimp only at hu); go_split_ands; go_simp)
            (try simp only [Act.put, putA, putB, putC])
            refine L2.late_free 3 (v := .pointer (some ⟨v9, 2, none⟩)) rfl (by kernel_rfl) (by kernel_rfl) (by kernel_rfl) (by kernel_rfl) (by kernel_rfl) (by kernel_rfl) (fun _ _ _ h => h) (Or.inl ⟨by rfl, ?_⟩) hHeld ?_
            · (intro u _; go_simp)
            (try simp only [Act.put, putA, putB, putC])
            refine L2.late_take 4 (v := .slice sO sL sC) rfl (by kernel_rfl) (List.Mem.tail _ (List.Mem.head _)) (by kernel_rfl) (by kernel_rfl) (by kernel_rfl) (by kernel_rfl) (fun _ _ _ h => h) (Or.inl ⟨by rfl, ?_⟩) hHeld ?_
            · (intro u hu; (try dsimp only at hu); go_split_ands; go_simp)
            (try simp only [Act.put, putA, putB, putC])
            refine L2.late_free 5 (v := .agg #[.bool false, .slice sO sL sC]) rfl (by kernel_rfl) (by kernel_rfl) (by kernel_rfl) (by kernel_rfl) (by kernel_rfl) (by kernel_rfl) (fun _ _ _ h => h) (Or.inl ⟨by rfl, ?_⟩) hHeld ?_
            · (intro u _; go_simp)
            (try simp only [Act.put, putA, putB, putC])
            refine L2.late_two 1 10 (by kernel_rfl) rfl rfl (fun K hK => ?t435) (fun K hK => ?t436)
            case' t435 =>
             go_simp
             have hq := wSign kW
             rw [← HCS.out] at hq
             refine hq.mono ?_
             rintro e w418 ⟨rfl, b418⟩
             clear hq kW
             replace kd := kd.below (Nat.le_refl _) b418
             have B418 : Below w317.heap.size w317 w418 := bstep B0 b418
             clear b418
             replace hHeld := KEEP _ B418
             go_wp2_with fail
             refine hK.out _ _ (L2.AllL.kept hHeld) ?_
             clear hK K
             (try simp only [Act.put, putA, putB, putC])
             refine L2.late_two 2 10 (by kernel_rfl) rfl rfl (fun K hK => ?t429) (fun K hK => ?t430)
             case' t429 =>
              go_simp
              refine (c_of (n := c) HBD.out.1 HBD.out.2.1).mono ?_
              rintro e w419 ⟨v, rfl, hv9, b419⟩
              obtain ⟨gn, go_, gl, gc, rfl, ig⟩ := hv9.see HBD.out.2.2 (by decide)
              clear hv9
              replace kd := kd.below (Nat.le_refl _) b419
              have B419 : Below w317.heap.size w317 w419 := bstep B418 b419
              clear b419
              replace hHeld := KEEP _ B419
              go_wp2_with fail
              refine hK.out _ _ (L2.AllL.kept hHeld) ?_
              clear hK K
              (try simp only [Act.put, putA, putB, putC])
              refine L2.late_two 6 10 (by kernel_rfl) rfl rfl (fun K hK => ?t424) (fun K hK => ?t425)
              case' t424 =>
               go_simp
               have idn : INum _ (.agg #[.bool false, .slice sO sL sC]) (S.den : Int) := ⟨false, sO, sL, sC, lim S.den, rfl, kd, HDL.out, by rw [val_lim]; rfl⟩
               have hq := c_new_yes ig idn HDZ.out
               rw [HT.out] at hq
               refine hq.mono ?_
               rintro e w420 ⟨v, rfl, hv9, b420⟩
               clear hq idn ig kd
               have rT := hv9.rw (HTS.out.mono (by decide))
               obtain ⟨m, d9, rfl, hm, hd9, hap⟩ := hv9
               obtain ⟨to9, tl, tc, rfl⟩ := hm.sl
               obtain ⟨tO, tL, tC, rfl⟩ := hd9.sl
               clear hm hd9 hap
               generalize decide (T.num < 0) = bT at *
               have B420 : Below w317.heap.size w317 w420 := bstep B419 b420
               clear b420
               replace hHeld := KEEP _ B420
               go_wp2_with fail
               refine hK.out _ _ (L2.AllL.kept hHeld) ?_
               clear hK K
               (try simp only [Act.put, putA, putB, putC])
               refine L2.late_free 7 (v := .tuple #[.agg #[.bool bT, .slice to9 tl tc, .slice tO tL tC], .int .i64 0]) rfl (by kernel_rfl) (by kernel_rfl) (by kernel_rfl) (by kernel_rfl) (by kernel_rfl) (by kernel_rfl) (fun _ _ _ h => h) (Or.inl ⟨by rfl, ?_⟩) hHeld ?_
               · (intro u _; go_simp)
               (try simp only [Act.put, putA, putB, putC])
               refine L2.late_free 8 (v := .agg #[.bool bT, .slice to9 tl tc, .slice tO tL tC]) rfl (by kernel_rfl) (by kernel_rfl) (by kernel_rfl) (by kernel_rfl) (by kernel_rfl) (by kernel_rfl) (fun _ _ _ h => h) (Or.inl ⟨by rfl, ?_⟩) hHeld ?_
               · (intro u _; go_simp)
               (try simp only [Act.put, putA, putB, putC])
               refine L2.late_free 9 (v := .int .i64 0) rfl (by kernel_rfl) (by kernel_rfl) (by kernel_rfl) (by kernel_rfl) (by kernel_rfl) (by kernel_rfl) (fun _ _ _ h => h) (Or.inl ⟨by rfl, ?_⟩) hHeld ?_
               · (intro u _; go_simp)
               (try simp only [Act.put, putA, putB, putC])
               refine L2.late_step 10 (by kernel_rfl) rfl (fun K hK => ?_)
               go_simp
               obtain ⟨w421, vx, hw, hv, pvx, b421, B421⟩ := new_pq B420
               rw [hw, hv]
               clear hw hv
               replace rT := rT.below b421
               clear b421
               replace hHeld := KEEP _ B421
               refine hK.out _ _ (L2.AllL.kept hHeld) ?_
               clear hK K
               (try simp only [Act.put, putA, putB, putC])
               have Bz := B421
               obtain ⟨wl, rfl⟩ : ∃ u, u = w421 := ⟨_, rfl⟩
              case' t425 =>
               go_simp
               obtain ⟨w422, vx, hw, hv, pvx, b422, B422⟩ := new_pq B419
               rw [hw, hv]
               clear hw hv
               replace kd := kd.below (Nat.le_refl _) b422
               replace ig := ig.below b422
               clear b422
               replace hHeld := KEEP _ B422
               refine hK.out _ _ (L2.AllL.kept hHeld) ?_
               clear hK K
               (try simp only [Act.put, putA, putB, putC])
               refine L2.late_step 6 (by kernel_rfl) rfl (fun K hK => ?_)
               go_simp
               have idn : INum _ (.agg #[.bool false, .slice sO sL sC]) (S.den : Int) := ⟨false, sO, sL, sC, lim S.den, rfl, kd, HDL.out, by rw [val_lim]; rfl⟩
               have hq := c_new_yes ig idn HDZ.out
               rw [HT.out] at hq
               refine hq.mono ?_
               rintro e w423 ⟨v, rfl, hv9, b423⟩
               clear hq idn ig kd
               have rT := hv9.rw (HTS.out.mono (by decide))
               obtain ⟨m, d9, rfl, hm, hd9, hap⟩ := hv9
               obtain ⟨to9, tl, tc, rfl⟩ := hm.sl
               obtain ⟨tO, tL, tC, rfl⟩ := hd9.sl
               clear hm hd9 hap
               generalize decide (T.num < 0) = bT at *
               replace pvx := pvx.below b423
               have B423 : Below w317.heap.size w317 w423 := bstep B422 b423
               clear b423
               replace hHeld := KEEP _ B423
               go_wp2_with fail
               refine hK.out _ _ (L2.AllL.kept hHeld) ?_
               clear hK K
               (try simp only [Act.put, putA, putB, putC])
               refine L2.late_free 7 (v := .tuple #[.agg #[.bool bT, .slice to9 tl tc, .slice tO tL tC], .int .i64 0]) rfl (by kernel_rfl) (by kernel_rfl) (by kernel_rfl) (by kernel_rfl) (by kernel_rfl) (by kernel_rfl) (fun _ _ _ h => h) (Or.inl ⟨by rfl, ?_⟩) hHeld ?_
               · (intro u _; go_simp)
               (try simp only [Act.put, putA, putB, putC])
               refine L2.late_free 8 (v := .agg #[.bool bT, .slice to9 tl tc, .slice tO tL tC]) rfl (by kernel_rfl) (by kernel_rfl) (by kernel_rfl) (by kernel_rfl) (by kernel_rfl) (by kernel_rfl) (fun _ _ _ h => h) (Or.inl ⟨by rfl, ?_⟩) hHeld ?_
               · (intro u _; go_simp)
               (try simp only [Act.put, putA, putB, putC])
               refine L2.late_free 9 (v := .int .i64 0) rfl (by kernel_rfl) (by kernel_rfl) (by kernel_rfl) (by kernel_rfl) (by kernel_rfl) (by kernel_rfl) (fun _ _ _ h => h) (Or.inl ⟨by rfl, ?_⟩) hHeld ?_
               · (intro u _; go_simp)
               (try simp only [Act.put, putA, putB, putC])
               have Bz := B423
               obtain ⟨wl, rfl⟩ : ∃ u, u = w423 := ⟨_, rfl⟩
             case' t430 =>
              go_simp
              obtain ⟨w426, vx, hw, hv, pvx, b426, B426⟩ := new_pq B418
              rw [hw, hv]
              clear hw hv
              replace kd := kd.below (Nat.le_refl _) b426
              clear b426
              replace hHeld := KEEP _ B426
              refine hK.out _ _ (L2.AllL.kept hHeld) ?_
              clear hK K
              (try simp only [Act.put, putA, putB, putC])
              refine L2.late_step 2 (by kernel_rfl) rfl (fun K hK => ?_)
              go_simp
              refine (c_of (n := c) HBD.out.1 HBD.out.2.1).mono ?_
              rintro e w427 ⟨v, rfl, hv9, b427⟩
              obtain ⟨gn, go_, gl, gc, rfl, ig⟩ := hv9.see HBD.out.2.2 (by decide)
              clear hv9
              replace kd := kd.below (Nat.le_refl _) b427
              replace pvx := pvx.below b427
              have B427 : Below w317.heap.size w317 w427 := bstep B426 b427
              clear b427
              replace hHeld := KEEP _ B427
              go_wp2_with fail
              refine hK.out _ _ (L2.AllL.kept hHeld) ?_
              clear hK K
              (try simp only [Act.put, putA, putB, putC])
              refine L2.late_step 6 (by kernel_rfl) rfl (fun K hK => ?_)
              go_simp
              have idn : INum _ (.agg #[.bool false, .slice sO sL sC]) (S.den : Int) := ⟨false, sO, sL, sC, lim S.den, rfl, kd, HDL.out, by rw [val_lim]; rfl⟩
              have hq := c_new_yes ig idn HDZ.out
              rw [HT.out] at hq
              refine hq.mono ?_
              rintro e w428 ⟨v, rfl, hv9, b428⟩
              clear hq idn ig kd
              have rT := hv9.rw (HTS.out.mono (by decide))
              obtain ⟨m, d9, rfl, hm, hd9, hap⟩ := hv9
              obtain ⟨to9, tl, tc, rfl⟩ := hm.sl
              obtain ⟨tO, tL, tC, rfl⟩ := hd9.sl
              clear hm hd9 hap
              generalize decide (T.num < 0) = bT at *
              replace pvx := pvx.below b428
              have B428 : Below w317.heap.size w317 w428 := bstep B427 b428
              clear b428
              replace hHeld := KEEP _ B428
              go_wp2_with fail
              refine hK.out _ _ (L2.AllL.kept hHeld) ?_
              clear hK K
              (try simp only [Act.put, putA, putB, putC])
              refine L2.late_free 7 (v := .tuple #[.agg #[.bool bT, .slice to9 tl tc, .slice tO tL tC], .int .i64 0]) rfl (by kernel_rfl) (by kernel_rfl) (by kernel_rfl) (by kernel_rfl) (by kernel_rfl) (by kernel_rfl) (fun _ _ _ h => h) (Or.inl ⟨by rfl, ?_⟩) hHeld ?_
              · (intro u _; go_simp)
              (try simp only [Act.put, putA, putB, putC])
              refine L2.late_free 8 (v := .agg #[.bool bT, .slice to9 tl tc, .slice tO tL tC]) rfl (by kernel_rfl) (by kernel_rfl) (by kernel_rfl) (by kernel_rfl) (by kernel_rfl) (by kernel_rfl) (fun _ _ _ h => h) (Or.inl ⟨by rfl, ?_⟩) hHeld ?_
              · (intro u _; go_simp)
              (try simp only [Act.put, putA, putB, putC])
              refine L2.late_free 9 (v := .int .i64 0) rfl (by kernel_rfl) (by kernel_rfl) (by kernel_rfl) (by kernel_rfl) (by kernel_rfl) (by kernel_rfl) (fun _ _ _ h => h) (Or.inl ⟨by rfl, ?_⟩) hHeld ?_
              · (intro u _; go_simp)
              (try simp only [Act.put, putA, putB, putC])
              have Bz := B428
              obtain ⟨wl, rfl⟩ : ∃ u, u = w428 := ⟨_, rfl⟩
            case' t436 =>
             go_simp
             obtain ⟨w431, vx, hw, hv, pvx, b431, B431⟩ := new_pq B0
             rw [hw, hv]
             clear hw hv
             replace kW := kW.below b431
             replace kd := kd.below (Nat.le_refl _) b431
             clear b431
             replace hHeld := KEEP _ B431
             refine hK.out _ _ (L2.AllL.kept hHeld) ?_
             clear hK K
             (try simp only [Act.put, putA, putB, putC])
             refine L2.late_step 1 (by kernel_rfl) rfl (fun K hK => ?_)
             go_simp
             have hq := wSign kW
             rw [← HCS.out] at hq
             refine hq.mono ?_
             rintro e w432 ⟨rfl, b432⟩
             clear hq kW
             replace kd := kd.below (Nat.le_refl _) b432
             replace pvx := pvx.below b432
             have B432 : Below w317.heap.size w317 w432 := bstep B431 b432
             clear b432
             replace hHeld := KEEP _ B432
             go_wp2_with fail
             refine hK.out _ _ (L2.AllL.kept hHeld) ?_
             clear hK K
             (try simp only [Act.put, putA, putB, putC])
             refine L2.late_step 2 (by kernel_rfl) rfl (fun K hK => ?_)
             go_simp
             refine (c_of (n := c) HBD.out.1 HBD.out.2.1).mono ?_
             rintro e w433 ⟨v, rfl, hv9, b433⟩
             obtain ⟨gn, go_, gl, gc, rfl, ig⟩ := hv9.see HBD.out.2.2 (by decide)
             clear hv9
             replace kd := kd.below (Nat.le_refl _) b433
             replace pvx := pvx.below b433
             have B433 : Below w317.heap.size w317 w433 := bstep B432 b433
             clear b433
             replace hHeld := KEEP _ B433
             go_wp2_with fail
             refine hK.out _ _ (L2.AllL.kept hHeld) ?_
             clear hK K
             (try simp only [Act.put, putA, putB, putC])
             refine L2.late_step 6 (by kernel_rfl) rfl (fun K hK => ?_)
             go_simp
             have idn : INum _ (.agg #[.bool false, .slice sO sL sC]) (S.den : Int) := ⟨false, sO, sL, sC, lim S.den, rfl, kd, HDL.out, by rw [val_lim]; rfl⟩
             have hq := c_new_yes ig idn HDZ.out
             rw [HT.out] at hq
             refine hq.mono ?_
             rintro e w434 ⟨v, rfl, hv9, b434⟩
             clear hq idn ig kd
             have rT := hv9.rw (HTS.out.mono (by decide))
             obtain ⟨m, d9, rfl, hm, hd9, hap⟩ := hv9
             obtain ⟨to9, tl, tc, rfl⟩ := hm.sl
             obtain ⟨tO, tL, tC, rfl⟩ := hd9.sl
             clear hm hd9 hap
             generalize decide (T.num < 0) = bT at *
             replace pvx := pvx.below b434
             have B434 : Below w317.heap.size w317 w434 := bstep B433 b434
             clear b434
             replace hHeld := KEEP _ B434
             go_wp2_with fail
             refine hK.out _ _ (L2.AllL.kept hHeld) ?_
             clear hK K
             (try simp only [Act.put, putA, putB, putC])
             refine L2.late_free 7 (v := .tuple #[.agg #[.bool bT, .slice to9 tl tc, .slice tO tL tC], .int .i64 0]) rfl (by kernel_rfl) (by kernel_rfl) (by kernel_rfl) (by kernel_rfl) (by kernel_rfl) (by kernel_rfl) (fun _ _ _ h => h) (Or.inl ⟨by rfl, ?_⟩) hHeld ?_
             · (intro u _; go_simp)
             (try simp only [Act.put, putA, putB, putC])
             refine L2.late_free 8 (v := .agg #[.bool bT, .slice to9 tl tc, .slice tO tL tC]) rfl (by kernel_rfl) (by kernel_rfl) (by kernel_rfl) (by kernel_rfl) (by kernel_rfl) (by kernel_rfl) (fun _ _ _ h => h) (Or.inl ⟨by rfl, ?_⟩) hHeld ?_
             · (intro u _; go_simp)
             (try simp only [Act.put, putA, putB, putC])
             refine L2.late_free 9 (v := .int .i64 0) rfl (by kernel_rfl) (by kernel_rfl) (by kernel_rfl) (by kernel_rfl) (by kernel_rfl) (by kernel_rfl) (fun _ _ _ h => h) (Or.inl ⟨by rfl, ?_⟩) hHeld ?_
             · (intro u _; go_simp)
             (try simp only [Act.put, putA, putB, putC])
             have Bz := B434
             obtain ⟨wl, rfl⟩ : ∃ u, u = w434 := ⟨_, rfl⟩
            all_goals
              have HPQ : Hid _ := pq_end pvx rT Bz
              obtain ⟨y0, y1, y2⟩ := pvx.c.cells
              have f0 := pvx.c.thaw 0
              have f1 := pvx.c.thaw 1
              have f2 := pvx.c.thaw 2
              clear pvx rT Bz KEEP
              refine L2.late_step 11 (by kernel_rfl) rfl (fun K hK => ?_)
              go_simp
              refine hK.out _ _ ⟨kpt 1, kpt 11, trivial⟩ ?_
              clear hK K
              (try simp only [Act.put, putA, putB, putC])
              refine L2.late_step 12 (by kernel_rfl) rfl (fun K hK => ?_)
              go_simp
              refine hK.out _ _ ⟨kpt 1, kpt 11, trivial⟩ ?_
              clear hK K
              (try simp only [Act.put, putA, putB, putC])
              refine L2.late_done (by kernel_rfl) ?_ _
              clear hHeld y0 y1 y2 f0 f1 f2
              go_wp2_with fail
              go_meet
              exact ⟨_, _, _, _, _, _, _, _, rfl, rfl, HPQ.out⟩
          case rest =>
            obtain ⟨v16, nT, to9, tl, tc, tO, tL, tC, rfl, rfl, qT, rT, b⟩ := hcut
            replace hX := hX.below b
            replace hY := hY.below b
            replace hv := hv.below b
            replace hdn := hdn.below (Nat.le_refl _) b
            replace hW := hW.below b
            replace hb0 := bstep hb0 b
            replace hvd := hvd.below b
            replace qx := qx.below b
            replace qy := qy.below b
            replace qs := qs.below b
            replace qd := qd.below b
            replace hb := bstep hb b
            replace hsz := Nat.lt_of_lt_of_le hsz b.size
            clear b
            obtain ⟨cqx0, cqx1, cqx2⟩ := qx.cells
            obtain ⟨cqy0, cqy1, cqy2⟩ := qy.cells
            obtain ⟨cqs0, cqs1, cqs2⟩ := qs.cells
            obtain ⟨cqd0, cqd1, cqd2⟩ := qd.cells
            obtain ⟨cqT0, cqT1, cqT2⟩ := qT.cells
            go_wp2_with fail
            clear cqx0 cqx1 cqx2 cqy0 cqy1 cqy2 cqs0 cqs1 cqs2 cqd0 cqd1 cqd2 cqT0 cqT1 cqT2
            have hq := wSub hW rT
            obtain ⟨R, hR⟩ : ∃ R, R = S - T := ⟨_, rfl⟩
            have HRS : Hid (RSz R 40) := by show RSz _ _; rw [hR]; exact (HSS.out.sub' HTS.out).mono (by decide)
            have HNR : Hid (cmpQ R A < 0 ∨ 0 < cmpQ R B) := by
              refine sp_nearer HAB.out R S HSP.out (S.num - c) ?_ ?_
              · rcases HCB.out with h | h <;> omega
              · rw [hR, ← HT.out]
                conv => lhs; lhs; rw [← Rat.num_divInt_den S]
                rw [Rat.divInt_sub_divInt _ _ HDZ.out HDZ.out, ← Int.sub_mul]
                rw [Rat.divInt_mul_right HDZ.out]
            rw [← hR] at hq
            clear hR
            refine (hq).mono ?_
            rintro e w537 ⟨v, rfl, hv9, b⟩
            clear hq
            have rR := hv9.rw HRS.out
            obtain ⟨m, d9, rfl, hm, hd9, hap⟩ := hv9
            obtain ⟨ko, kl, kc, rfl⟩ := hm.sl
            obtain ⟨kO, kL, kC, rfl⟩ := hd9.sl
            clear hm hd9 hap
            generalize decide (R.num < 0) = bR at *
            replace hX := hX.below b
            replace hY := hY.below b
            replace hv := hv.below b
            replace hdn := hdn.below (Nat.le_refl _) b
            replace hW := hW.below b
            replace hb0 := bstep hb0 b
            replace hvd := hvd.below b
            replace rT := rT.below b
            replace qx := qx.below b
            replace qy := qy.below b
            replace qs := qs.below b
            replace qd := qd.below b
            replace qT := qT.below b
            replace hb := bstep hb b
            replace hsz := Nat.lt_of_lt_of_le hsz b.size
            clear b
            have hq0 : QCell (w537.alloc (.cells #[.bool false, .slice none 0 0, .slice none 0 0] 27)) w537.heap.size false (.slice none 0 0) (.slice none 0 0) := qcell_new _ rfl
            obtain ⟨W538, hW538⟩ : ∃ W, W = w537.alloc (.cells #[.bool bR, .slice ko kl kc, .slice kO kL kC] 27) := ⟨_, rfl⟩
            have qn : QCell W538 (w537.heap.size) bR (.slice ko kl kc) (.slice kO kL kC) := by rw [hW538]; exact qcell_new _ rfl
            have b : Below w537.heap.size w537 W538 := by rw [hW538]; exact belowA _ _
            obtain ⟨z0, z1, z2⟩ := hq0.cells
            have t0 := hq0.thaw 0
            have t1 := hq0.thaw 1
            have t2 := hq0.thaw 2
            clear hq0
            replace hX := hX.below b
            replace hY := hY.below b
            replace hv := hv.below b
            replace hdn := hdn.below (Nat.le_refl _) b
            replace hW := hW.below b
            replace hb0 := bstep hb0 b
            replace hvd := hvd.below b
            replace rT := rT.below b
            replace rR := rR.below b
            replace qx := qx.below b
            replace qy := qy.below b
            replace qs := qs.below b
            replace qd := qd.below b
            replace qT := qT.below b
            replace hb := bstep hb b
            replace hsz := Nat.lt_of_lt_of_le hsz b.size
            clear b
            have rqx0 : (w537.alloc (.cells #[.bool bR, .slice ko kl kc, .slice kO kL kC] 27)).cell? ⟨v4, 0, none⟩ = some (.bool na) := by rw [← hW538]; exact qx.cells.1
            have rqx1 : (w537.alloc (.cells #[.bool bR, .slice ko kl kc, .slice kO kL kC] 27)).cell? ⟨v4, 1, none⟩ = some (.slice ao al2 ac) := by rw [← hW538]; exact qx.cells.2.1
            have rqx2 : (w537.alloc (.cells #[.bool bR, .slice ko kl kc, .slice kO kL kC] 27)).cell? ⟨v4, 2, none⟩ = some (.slice aO aL2 aC) := by rw [← hW538]; exact qx.cells.2.2
            have rqy0 : (w537.alloc (.cells #[.bool bR, .slice ko kl kc, .slice kO kL kC] 27)).cell? ⟨v6, 0, none⟩ = some (.bool nb) := by rw [← hW538]; exact qy.cells.1
            have rqy1 : (w537.alloc (.cells #[.bool bR, .slice ko kl kc, .slice kO kL kC] 27)).cell? ⟨v6, 1, none⟩ = some (.slice bo bl2 bc) := by rw [← hW538]; exact qy.cells.2.1
            have rqy2 : (w537.alloc (.cells #[.bool bR, .slice ko kl kc, .slice kO kL kC] 27)).cell? ⟨v6, 2, none⟩ = some (.slice bO bL2 bC) := by rw [← hW538]; exact qy.cells.2.2
            have rqs0 : (w537.alloc (.cells #[.bool bR, .slice ko kl kc, .slice kO kL kC] 27)).cell? ⟨v9, 0, none⟩ = some (.bool bs) := by rw [← hW538]; exact qs.cells.1
            have rqs1 : (w537.alloc (.cells #[.bool bR, .slice ko kl kc, .slice kO kL kC] 27)).cell? ⟨v9, 1, none⟩ = some (.slice so sl sc) := by rw [← hW538]; exact qs.cells.2.1
            have rqs2 : (w537.alloc (.cells #[.bool bR, .slice ko kl kc, .slice kO kL kC] 27)).cell? ⟨v9, 2, none⟩ = some (.slice sO sL sC) := by rw [← hW538]; exact qs.cells.2.2
            have rqd0 : (w537.alloc (.cells #[.bool bR, .slice ko kl kc, .slice kO kL kC] 27)).cell? ⟨v214, 0, none⟩ = some (.bool bd) := by rw [← hW538]; exact qd.cells.1
            have rqd1 : (w537.alloc (.cells #[.bool bR, .slice ko kl kc, .slice kO kL kC] 27)).cell? ⟨v214, 1, none⟩ = some (.slice eo el ec) := by rw [← hW538]; exact qd.cells.2.1
            have rqd2 : (w537.alloc (.cells #[.bool bR, .slice ko kl kc, .slice kO kL kC] 27)).cell? ⟨v214, 2, none⟩ = some (.slice eO eL eC) := by rw [← hW538]; exact qd.cells.2.2
            have rqT0 : (w537.alloc (.cells #[.bool bR, .slice ko kl kc, .slice kO kL kC] 27)).cell? ⟨v16, 0, none⟩ = some (.bool nT) := by rw [← hW538]; exact qT.cells.1
            have rqT1 : (w537.alloc (.cells #[.bool bR, .slice ko kl kc, .slice kO kL kC] 27)).cell? ⟨v16, 1, none⟩ = some (.slice to9 tl tc) := by rw [← hW538]; exact qT.cells.2.1
            have rqT2 : (w537.alloc (.cells #[.bool bR, .slice ko kl kc, .slice kO kL kC] 27)).cell? ⟨v16, 2, none⟩ = some (.slice tO tL tC) := by rw [← hW538]; exact qT.cells.2.2
            have rqn0 : (w537.alloc (.cells #[.bool bR, .slice ko kl kc, .slice kO kL kC] 27)).cell? ⟨w537.heap.size, 0, none⟩ = some (.bool bR) := by rw [← hW538]; exact qn.cells.1
            have rqn1 : (w537.alloc (.cells #[.bool bR, .slice ko kl kc, .slice kO kL kC] 27)).cell? ⟨w537.heap.size, 1, none⟩ = some (.slice ko kl kc) := by rw [← hW538]; exact qn.cells.2.1
            have rqn2 : (w537.alloc (.cells #[.bool bR, .slice ko kl kc, .slice kO kL kC] 27)).cell? ⟨w537.heap.size, 2, none⟩ = some (.slice kO kL kC) := by rw [← hW538]; exact qn.cells.2.2
            obtain ⟨v538, hv538⟩ : ∃ v, v = w537.heap.size := ⟨_, rfl⟩
            rw [← hv538] at qn
            have HW538 : Hid (W538 = w537.alloc (.cells #[.bool bR, .slice ko kl kc, .slice kO kL kC] 27)) := hW538
            have Hv538 : Hid (v538 = w537.heap.size) := hv538
            clear hW538 hv538
            go_wp2_with fail
            rw [← HW538.out, ← Hv538.out]
            clear HW538 Hv538 z0 t0 z1 t1 z2 t2 rqx0 rqx1 rqx2 rqy0 rqy1 rqy2 rqs0 rqs1 rqs2 rqd0 rqd1 rqd2 rqT0 rqT1 rqT2 rqn0 rqn1 rqn2 
            by_cases h8 : cmpQ R A < 0
            · have hq := wCmp rR hX
              obtain ⟨c9, hc⟩ : ∃ c, c = cmpQ R A := ⟨_, rfl⟩
              have hc9 : c9 < 0 := by rw [hc]; omega
              rw [← hc] at hq
              clear hc
              refine (hq).mono ?_
              rintro e w639 ⟨rfl, b⟩
              clear hq
              replace hX := hX.below b
              replace hY := hY.below b
              replace hv := hv.below b
              replace hdn := hdn.below (Nat.le_refl _) b
              replace hW := hW.below b
              replace hb0 := bstep hb0 b
              replace hvd := hvd.below b
              replace rT := rT.below b
              replace rR := rR.below b
              replace qx := qx.below b
              replace qy := qy.below b
              replace qs := qs.below b
              replace qd := qd.below b
              replace qT := qT.below b
              replace qn := qn.below b
              replace hb := bstep hb b
              replace hsz := Nat.lt_of_lt_of_le hsz b.size
              clear b
              have HE : Hid (Below w.heap.size w w639) := hb
              clear hb hsz qx qy qs qd qT qn hX hY hv hdn hW hb0 hvd rT rR
              go_wp2
              go_ret
              exact ⟨rfl, HE.out⟩
            · have hq := wCmp rR hX
              obtain ⟨c9, hc⟩ : ∃ c, c = cmpQ R A := ⟨_, rfl⟩
              have hc9 : ¬ c9 < 0 := by rw [hc]; omega
              rw [← hc] at hq
              clear hc
              refine (hq).mono ?_
              rintro e w639 ⟨rfl, b⟩
              clear hq
              replace hX := hX.below b
              replace hY := hY.below b
              replace hv := hv.below b
              replace hdn := hdn.below (Nat.le_refl _) b
              replace hW := hW.below b
              replace hb0 := bstep hb0 b
              replace hvd := hvd.below b
              replace rT := rT.below b
              replace rR := rR.below b
              replace qx := qx.below b
              replace qy := qy.below b
              replace qs := qs.below b
              replace qd := qd.below b
              replace qT := qT.below b
              replace qn := qn.below b
              replace hb := bstep hb b
              replace hsz := Nat.lt_of_lt_of_le hsz b.size
              clear b
              obtain ⟨cqx0, cqx1, cqx2⟩ := qx.cells
              obtain ⟨cqy0, cqy1, cqy2⟩ := qy.cells
              obtain ⟨cqs0, cqs1, cqs2⟩ := qs.cells
              obtain ⟨cqd0, cqd1, cqd2⟩ := qd.cells
              obtain ⟨cqT0, cqT1, cqT2⟩ := qT.cells
              obtain ⟨cqn0, cqn1, cqn2⟩ := qn.cells
              go_wp2_with fail
              clear cqx0 cqx1 cqx2 cqy0 cqy1 cqy2 cqs0 cqs1 cqs2 cqd0 cqd1 cqd2 cqT0 cqT1 cqT2 cqn0 cqn1 cqn2
              have h9 : 0 < cmpQ R B := HNR.out.resolve_left (by omega)
              have hq := wCmp rR hY
              obtain ⟨c7, hc⟩ : ∃ c, c = cmpQ R B := ⟨_, rfl⟩
              have hc7 : 0 < c7 := by rw [hc]; omega
              rw [← hc] at hq
              clear hc
              refine (hq).mono ?_
              rintro e w640 ⟨rfl, b⟩
              clear hq
              replace hX := hX.below b
              replace hY := hY.below b
              replace hv := hv.below b
              replace hdn := hdn.below (Nat.le_refl _) b
              replace hW := hW.below b
              replace hb0 := bstep hb0 b
              replace hvd := hvd.below b
              replace rT := rT.below b
              replace rR := rR.below b
              replace qx := qx.below b
              replace qy := qy.below b
              replace qs := qs.below b
              replace qd := qd.below b
              replace qT := qT.below b
              replace qn := qn.below b
              replace hb := bstep hb b
              replace hsz := Nat.lt_of_lt_of_le hsz b.size
              clear b
              have HE : Hid (Below w.heap.size w w640) := hb
              clear hb hsz qx qy qs qd qT qn hX hY hv hdn hW hb0 hvd rT rR
              go_wp2
              go_ret
              exact ⟨rfl, HE.out⟩
      · have KEEP : ∀ u, Below W214.heap.size W214 u → AllL u [(4, fun w' => w'.cell? ⟨v9, 2, none⟩ = some (.slice sO sL sC))] := fun u B => ⟨(qs.below B).cells.2.2, trivial⟩
        refine region_late [(4, fun w' => w'.cell? ⟨v9, 2, none⟩ = some (.slice sO sL sC))] (by kernel_rfl) ?_
        have BZ : Below W214.heap.size W214 W214.drew := below_drew' _
        obtain ⟨wz, hwz⟩ : ∃ u, u = W214.drew := ⟨_, rfl⟩
        rw [← hwz] at BZ ⊢
        clear hwz
        have hHeld := KEEP _ BZ
        have khdn := hdn.below (Nat.le_refl _) BZ
        refine late_fr 0 (v := .int .i64 (d : Int)) rfl (Or.inl ⟨by rfl, ?_⟩) hHeld ?_
        · (intro u _; go_simp)
        (try simp only [Act.put, putA, putB, putC])
        refine late_fr 1 (v := .int .u64 (d : Int)) rfl (Or.inl ⟨by rfl, ?_⟩) hHeld ?_
        · (intro u _; go_simp)
        (try simp only [Act.put, putA, putB, putC])
        refine late_fr 3 (v := .pointer (some ⟨v9, 2, none⟩)) rfl (Or.inl ⟨by rfl, ?_⟩) hHeld ?_
        · (intro u _; go_simp)
        (try simp only [Act.put, putA, putB, putC])
        refine late_tk 4 (v := .slice sO sL sC) rfl (List.Mem.head _) (Or.inl ⟨by rfl, ?_⟩) hHeld ?_
        · (intro u hu; (try dsimp only at hu); go_split_ands; go_simp)
        (try simp only [Act.put, putA, putB, putC])
        refine late_st 2 rfl (fun K hK => ?_)
        go_simp
        refine (of_any d _ (by omega)).mono ?_
        rintro e w315 ⟨v, rfl, ho, b315⟩
        obtain ⟨xo, xl, xc, rfl⟩ := ho.sl
        have hn := ho.num
        clear ho
        replace khdn := khdn.below (Nat.le_refl _) b315
        have B315 : Below W214.heap.size W214 w315 := bstep BZ b315
        clear BZ b315
        replace hHeld := KEEP _ B315
        go_wp2_with fail
        refine hK.out _ _ (AllL.kept hHeld) ?_
        clear hK K
        (try simp only [Act.put, putA, putB, putC])
        have hq := ncmp hn (khdn.below (Nat.le_refl _) (Below.refl _ _))
        rw [val_lim, val_lim] at hq
        obtain ⟨c, hc⟩ : ∃ c, c = cmpN d S.den := ⟨_, rfl⟩
        have hcc : ¬ 0 ≤ c := by rw [hc]; unfold cmpN; split <;> (try split) <;> omega
        rw [← hc] at hq
        clear hc
        refine late_st 5 rfl (fun K hK => ?_)
        go_simp
        refine (hq).mono ?_
        rintro e w316 ⟨rfl, b316⟩
        clear hq hn
        have B316 : Below W214.heap.size W214 w316 := bstep B315 b316
        clear B315 b316
        replace hHeld := KEEP _ B316
        go_wp2_with fail
        refine hK.out _ _ (AllL.kept hHeld) ?_
        clear hK K
        (try simp only [Act.put, putA, putB, putC])
        refine late_st 6 rfl (fun K hK => ?_)
        go_simp
        refine hK.out _ _ (AllL.kept hHeld) ?_
        clear hK K
        (try simp only [Act.put, putA, putB, putC])
        refine late_done (by kernel_rfl) ?_ _
        clear KEEP hHeld khdn
        have b := B316
        clear B316
        replace hX := hX.below b
        replace hY := hY.below b
        replace hv := hv.below b
        replace hdn := hdn.below (Nat.le_refl _) b
        replace hW := hW.below b
        replace hb0 := bstep hb0 b
        replace hvd := hvd.below b
        replace qx := qx.below b
        replace qy := qy.below b
        replace qs := qs.below b
        replace qd := qd.below b
        replace hb := bstep hb b
        replace hsz := Nat.lt_of_lt_of_le hsz b.size
        clear b
        obtain ⟨cqx0, cqx1, cqx2⟩ := qx.cells
        obtain ⟨cqy0, cqy1, cqy2⟩ := qy.cells
        obtain ⟨cqs0, cqs1, cqs2⟩ := qs.cells
        obtain ⟨cqd0, cqd1, cqd2⟩ := qd.cells
        go_wp2_with fail
        clear cqx0 cqx1 cqx2 cqy0 cqy1 cqy2 cqs0 cqs1 cqs2 cqd0 cqd1 cqd2
        have hE := hvd.rw (HDS.out.mono (by decide))
        have hq := wMul hX hE
        refine (hq).mono ?_
        rintro e w317 ⟨v, rfl, hv9, b⟩
        clear hq
        have rj := hv9.rw ((HS1.out.mul' HDS.out).mono (by decide))
        obtain ⟨m, d9, rfl, hm, hd9, hap⟩ := id hv9
        obtain ⟨jo, jl, jc, rfl⟩ := hm.sl
        obtain ⟨jO, jL, jC, rfl⟩ := hd9.sl
        clear hm hd9 hap
        clear hv9
        generalize decide ((A * D).num < 0) = bj at *
        replace hX := hX.below b
        replace hY := hY.below b
        replace hv := hv.below b
        replace hdn := hdn.below (Nat.le_refl _) b
        replace hW := hW.below b
        replace hb0 := bstep hb0 b
        replace hvd := hvd.below b
        replace hE := hE.below b
        replace qx := qx.below b
        replace qy := qy.below b
        replace qs := qs.below b
        replace qd := qd.below b
        replace hb := bstep hb b
        replace hsz := Nat.lt_of_lt_of_le hsz b.size
        clear b
        obtain ⟨cqx0, cqx1, cqx2⟩ := qx.cells
        obtain ⟨cqy0, cqy1, cqy2⟩ := qy.cells
        obtain ⟨cqs0, cqs1, cqs2⟩ := qs.cells
        obtain ⟨cqd0, cqd1, cqd2⟩ := qd.cells
        go_wp2_with fail
        clear cqx0 cqx1 cqx2 cqy0 cqy1 cqy2 cqs0 cqs1 cqs2 cqd0 cqd1 cqd2
        have hq := wNeg rj
        refine (hq).mono ?_
        rintro e w318 ⟨v, rfl, hv9, b⟩
        clear hq
        have rk := hv9.rw ((HS1.out.mul' HDS.out).neg'.mono (by decide))
        obtain ⟨m, d9, rfl, hm, hd9, hap⟩ := id hv9
        obtain ⟨ko, kl, kc, rfl⟩ := hm.sl
        obtain ⟨kO, kL, kC, rfl⟩ := hd9.sl
        clear hm hd9 hap
        clear hv9
        generalize decide ((-(A * D)).num < 0) = bk at *
        replace hX := hX.below b
        replace hY := hY.below b
        replace hv := hv.below b
        replace hdn := hdn.below (Nat.le_refl _) b
        replace hW := hW.below b
        replace hb0 := bstep hb0 b
        replace hvd := hvd.below b
        replace hE := hE.below b
        replace rj := rj.below b
        replace qx := qx.below b
        replace qy := qy.below b
        replace qs := qs.below b
        replace qd := qd.below b
        replace hb := bstep hb b
        replace hsz := Nat.lt_of_lt_of_le hsz b.size
        clear b
        obtain ⟨cqx0, cqx1, cqx2⟩ := qx.cells
        obtain ⟨cqy0, cqy1, cqy2⟩ := qy.cells
        obtain ⟨cqs0, cqs1, cqs2⟩ := qs.cells
        obtain ⟨cqd0, cqd1, cqd2⟩ := qd.cells
        go_wp2_with fail
        clear cqx0 cqx1 cqx2 cqy0 cqy1 cqy2 cqs0 cqs1 cqs2 cqd0 cqd1 cqd2
        have hq := wFloor rk
        refine (hq).mono ?_
        rintro e w319 ⟨v, rfl, hv9, b⟩
        clear hq
        obtain ⟨np, po, pl, pc, rfl, ip⟩ := hv9.see (flo2_sz ((HS1.out.mul' HDS.out).neg') (by decide)) (by decide)
        clear hv9
        replace hX := hX.below b
        replace hY := hY.below b
        replace hv := hv.below b
        replace hdn := hdn.below (Nat.le_refl _) b
        replace hW := hW.below b
        replace hb0 := bstep hb0 b
        replace hvd := hvd.below b
        replace hE := hE.below b
        replace rj := rj.below b
        replace rk := rk.below b
        replace qx := qx.below b
        replace qy := qy.below b
        replace qs := qs.below b
        replace qd := qd.below b
        replace hb := bstep hb b
        replace hsz := Nat.lt_of_lt_of_le hsz b.size
        clear b
        have hq0 : ICell (w319.alloc (.cells #[.bool false, .slice none 0 0] 25)) w319.heap.size false (.slice none 0 0) := icell_new _ rfl
        obtain ⟨W320, hW320⟩ : ∃ W, W = w319.alloc (.cells #[.bool np, .slice po pl pc] 25) := ⟨_, rfl⟩
        have qp : ICell W320 (w319.heap.size) np (.slice po pl pc) := by rw [hW320]; exact icell_new _ rfl
        have b : Below w319.heap.size w319 W320 := by rw [hW320]; exact belowA _ _
        obtain ⟨z0, z1⟩ := hq0.cells
        have t0 := hq0.thaw 0
        have t1 := hq0.thaw 1
        clear hq0
        replace hX := hX.below b
        replace hY := hY.below b
        replace hv := hv.below b
        replace hdn := hdn.below (Nat.le_refl _) b
        replace hW := hW.below b
        replace hb0 := bstep hb0 b
        replace hvd := hvd.below b
        replace hE := hE.below b
        replace rj := rj.below b
        replace rk := rk.below b
        replace ip := ip.below b
        replace qx := qx.below b
        replace qy := qy.below b
        replace qs := qs.below b
        replace qd := qd.below b
        replace hb := bstep hb b
        replace hsz := Nat.lt_of_lt_of_le hsz b.size
        clear b
        have rqx0 : (w319.alloc (.cells #[.bool np, .slice po pl pc] 25)).cell? ⟨v4, 0, none⟩ = some (.bool na) := by rw [← hW320]; exact qx.cells.1
        have rqx1 : (w319.alloc (.cells #[.bool np, .slice po pl pc] 25)).cell? ⟨v4, 1, none⟩ = some (.slice ao al2 ac) := by rw [← hW320]; exact qx.cells.2.1
        have rqx2 : (w319.alloc (.cells #[.bool np, .slice po pl pc] 25)).cell? ⟨v4, 2, none⟩ = some (.slice aO aL2 aC) := by rw [← hW320]; exact qx.cells.2.2
        have rqy0 : (w319.alloc (.cells #[.bool np, .slice po pl pc] 25)).cell? ⟨v6, 0, none⟩ = some (.bool nb) := by rw [← hW320]; exact qy.cells.1
        have rqy1 : (w319.alloc (.cells #[.bool np, .slice po pl pc] 25)).cell? ⟨v6, 1, none⟩ = some (.slice bo bl2 bc) := by rw [← hW320]; exact qy.cells.2.1
        have rqy2 : (w319.alloc (.cells #[.bool np, .slice po pl pc] 25)).cell? ⟨v6, 2, none⟩ = some (.slice bO bL2 bC) := by rw [← hW320]; exact qy.cells.2.2
        have rqs0 : (w319.alloc (.cells #[.bool np, .slice po pl pc] 25)).cell? ⟨v9, 0, none⟩ = some (.bool bs) := by rw [← hW320]; exact qs.cells.1
        have rqs1 : (w319.alloc (.cells #[.bool np, .slice po pl pc] 25)).cell? ⟨v9, 1, none⟩ = some (.slice so sl sc) := by rw [← hW320]; exact qs.cells.2.1
        have rqs2 : (w319.alloc (.cells #[.bool np, .slice po pl pc] 25)).cell? ⟨v9, 2, none⟩ = some (.slice sO sL sC) := by rw [← hW320]; exact qs.cells.2.2
        have rqd0 : (w319.alloc (.cells #[.bool np, .slice po pl pc] 25)).cell? ⟨v214, 0, none⟩ = some (.bool bd) := by rw [← hW320]; exact qd.cells.1
        have rqd1 : (w319.alloc (.cells #[.bool np, .slice po pl pc] 25)).cell? ⟨v214, 1, none⟩ = some (.slice eo el ec) := by rw [← hW320]; exact qd.cells.2.1
        have rqd2 : (w319.alloc (.cells #[.bool np, .slice po pl pc] 25)).cell? ⟨v214, 2, none⟩ = some (.slice eO eL eC) := by rw [← hW320]; exact qd.cells.2.2
        have rqp0 : (w319.alloc (.cells #[.bool np, .slice po pl pc] 25)).cell? ⟨w319.heap.size, 0, none⟩ = some (.bool np) := by rw [← hW320]; exact qp.cells.1
        have rqp1 : (w319.alloc (.cells #[.bool np, .slice po pl pc] 25)).cell? ⟨w319.heap.size, 1, none⟩ = some (.slice po pl pc) := by rw [← hW320]; exact qp.cells.2
        obtain ⟨v320, hv320⟩ : ∃ v, v = w319.heap.size := ⟨_, rfl⟩
        rw [← hv320] at qp
        have HW320 : Hid (W320 = w319.alloc (.cells #[.bool np, .slice po pl pc] 25)) := hW320
        have Hv320 : Hid (v320 = w319.heap.size) := hv320
        clear hW320 hv320
        go_wp2_with fail
        rw [← HW320.out, ← Hv320.out]
        clear HW320 Hv320 z0 t0 z1 t1 rqx0 rqx1 rqx2 rqy0 rqy1 rqy2 rqs0 rqs1 rqs2 rqd0 rqd1 rqd2 rqp0 rqp1 
        have hq := wMul hY hE
        refine (hq).mono ?_
        rintro e w321 ⟨v, rfl, hv9, b⟩
        clear hq
        have rf := hv9.rw ((HS2.out.mul' HDS.out).mono (by decide))
        obtain ⟨m, d9, rfl, hm, hd9, hap⟩ := id hv9
        obtain ⟨fo, fl, fc, rfl⟩ := hm.sl
        obtain ⟨fO, fL, fC, rfl⟩ := hd9.sl
        clear hm hd9 hap
        clear hv9
        generalize decide ((B * D).num < 0) = bf at *
        replace hX := hX.below b
        replace hY := hY.below b
        replace hv := hv.below b
        replace hdn := hdn.below (Nat.le_refl _) b
        replace hW := hW.below b
        replace hb0 := bstep hb0 b
        replace hvd := hvd.below b
        replace hE := hE.below b
        replace rj := rj.below b
        replace rk := rk.below b
        replace ip := ip.below b
        replace qx := qx.below b
        replace qy := qy.below b
        replace qs := qs.below b
        replace qd := qd.below b
        replace qp := qp.below b
        replace hb := bstep hb b
        replace hsz := Nat.lt_of_lt_of_le hsz b.size
        clear b
        obtain ⟨cqx0, cqx1, cqx2⟩ := qx.cells
        obtain ⟨cqy0, cqy1, cqy2⟩ := qy.cells
        obtain ⟨cqs0, cqs1, cqs2⟩ := qs.cells
        obtain ⟨cqd0, cqd1, cqd2⟩ := qd.cells
        obtain ⟨cqp0, cqp1⟩ := qp.cells
        go_wp2_with fail
        clear cqx0 cqx1 cqx2 cqy0 cqy1 cqy2 cqs0 cqs1 cqs2 cqd0 cqd1 cqd2 cqp0 cqp1
        have hq := wFloor rf
        refine (hq).mono ?_
        rintro e w322 ⟨v, rfl, hv9, b⟩
        clear hq
        obtain ⟨nr, ro, rl, rc, rfl, ir⟩ := hv9.see (flo2_sz (HS2.out.mul' HDS.out) (by decide)) (by decide)
        clear hv9
        replace hX := hX.below b
        replace hY := hY.below b
        replace hv := hv.below b
        replace hdn := hdn.below (Nat.le_refl _) b
        replace hW := hW.below b
        replace hb0 := bstep hb0 b
        replace hvd := hvd.below b
        replace hE := hE.below b
        replace rj := rj.below b
        replace rk := rk.below b
        replace ip := ip.below b
        replace rf := rf.below b
        replace qx := qx.below b
        replace qy := qy.below b
        replace qs := qs.below b
        replace qd := qd.below b
        replace qp := qp.below b
        replace hb := bstep hb b
        replace hsz := Nat.lt_of_lt_of_le hsz b.size
        clear b
        have hq0 : ICell (w322.alloc (.cells #[.bool false, .slice none 0 0] 25)) w322.heap.size false (.slice none 0 0) := icell_new _ rfl
        obtain ⟨W323, hW323⟩ : ∃ W, W = w322.alloc (.cells #[.bool nr, .slice ro rl rc] 25) := ⟨_, rfl⟩
        have qr : ICell W323 (w322.heap.size) nr (.slice ro rl rc) := by rw [hW323]; exact icell_new _ rfl
        have b : Below w322.heap.size w322 W323 := by rw [hW323]; exact belowA _ _
        obtain ⟨z0, z1⟩ := hq0.cells
        have t0 := hq0.thaw 0
        have t1 := hq0.thaw 1
        clear hq0
        replace hX := hX.below b
        replace hY := hY.below b
        replace hv := hv.below b
        replace hdn := hdn.below (Nat.le_refl _) b
        replace hW := hW.below b
        replace hb0 := bstep hb0 b
        replace hvd := hvd.below b
        replace hE := hE.below b
        replace rj := rj.below b
        replace rk := rk.below b
        replace ip := ip.below b
        replace rf := rf.below b
        replace ir := ir.below b
        replace qx := qx.below b
        replace qy := qy.below b
        replace qs := qs.below b
        replace qd := qd.below b
        replace qp := qp.below b
        replace hb := bstep hb b
        replace hsz := Nat.lt_of_lt_of_le hsz b.size
        clear b
        have rqx0 : (w322.alloc (.cells #[.bool nr, .slice ro rl rc] 25)).cell? ⟨v4, 0, none⟩ = some (.bool na) := by rw [← hW323]; exact qx.cells.1
        have rqx1 : (w322.alloc (.cells #[.bool nr, .slice ro rl rc] 25)).cell? ⟨v4, 1, none⟩ = some (.slice ao al2 ac) := by rw [← hW323]; exact qx.cells.2.1
        have rqx2 : (w322.alloc (.cells #[.bool nr, .slice ro rl rc] 25)).cell? ⟨v4, 2, none⟩ = some (.slice aO aL2 aC) := by rw [← hW323]; exact qx.cells.2.2
        have rqy0 : (w322.alloc (.cells #[.bool nr, .slice ro rl rc] 25)).cell? ⟨v6, 0, none⟩ = some (.bool nb) := by rw [← hW323]; exact qy.cells.1
        have rqy1 : (w322.alloc (.cells #[.bool nr, .slice ro rl rc] 25)).cell? ⟨v6, 1, none⟩ = some (.slice bo bl2 bc) := by rw [← hW323]; exact qy.cells.2.1
        have rqy2 : (w322.alloc (.cells #[.bool nr, .slice ro rl rc] 25)).cell? ⟨v6, 2, none⟩ = some (.slice bO bL2 bC) := by rw [← hW323]; exact qy.cells.2.2
        have rqs0 : (w322.alloc (.cells #[.bool nr, .slice ro rl rc] 25)).cell? ⟨v9, 0, none⟩ = some (.bool bs) := by rw [← hW323]; exact qs.cells.1
        have rqs1 : (w322.alloc (.cells #[.bool nr, .slice ro rl rc] 25)).cell? ⟨v9, 1, none⟩ = some (.slice so sl sc) := by rw [← hW323]; exact qs.cells.2.1
        have rqs2 : (w322.alloc (.cells #[.bool nr, .slice ro rl rc] 25)).cell? ⟨v9, 2, none⟩ = some (.slice sO sL sC) := by rw [← hW323]; exact qs.cells.2.2
        have rqd0 : (w322.alloc (.cells #[.bool nr, .slice ro rl rc] 25)).cell? ⟨v214, 0, none⟩ = some (.bool bd) := by rw [← hW323]; exact qd.cells.1
        have rqd1 : (w322.alloc (.cells #[.bool nr, .slice ro rl rc] 25)).cell? ⟨v214, 1, none⟩ = some (.slice eo el ec) := by rw [← hW323]; exact qd.cells.2.1
        have rqd2 : (w322.alloc (.cells #[.bool nr, .slice ro rl rc] 25)).cell? ⟨v214, 2, none⟩ = some (.slice eO eL eC) := by rw [← hW323]; exact qd.cells.2.2
        have rqp0 : (w322.alloc (.cells #[.bool nr, .slice ro rl rc] 25)).cell? ⟨v320, 0, none⟩ = some (.bool np) := by rw [← hW323]; exact qp.cells.1
        have rqp1 : (w322.alloc (.cells #[.bool nr, .slice ro rl rc] 25)).cell? ⟨v320, 1, none⟩ = some (.slice po pl pc) := by rw [← hW323]; exact qp.cells.2
        have rqr0 : (w322.alloc (.cells #[.bool nr, .slice ro rl rc] 25)).cell? ⟨w322.heap.size, 0, none⟩ = some (.bool nr) := by rw [← hW323]; exact qr.cells.1
        have rqr1 : (w322.alloc (.cells #[.bool nr, .slice ro rl rc] 25)).cell? ⟨w322.heap.size, 1, none⟩ = some (.slice ro rl rc) := by rw [← hW323]; exact qr.cells.2
        obtain ⟨v323, hv323⟩ : ∃ v, v = w322.heap.size := ⟨_, rfl⟩
        rw [← hv323] at qr
        have HW323 : Hid (W323 = w322.alloc (.cells #[.bool nr, .slice ro rl rc] 25)) := hW323
        have Hv323 : Hid (v323 = w322.heap.size) := hv323
        clear hW323 hv323
        go_wp2_with fail
        rw [← HW323.out, ← Hv323.out]
        clear HW323 Hv323 z0 t0 z1 t1 rqx0 rqx1 rqx2 rqy0 rqy1 rqy2 rqs0 rqs1 rqs2 rqd0 rqd1 rqd2 rqp0 rqp1 rqr0 rqr1 
        have hgap := sp_gap HAB.out (d := d) h1 (by rw [← HSP.out]; omega) HD.out
        have HGAP : Hid (¬ -flo2 (-(A * D)) ≤ flo2 (B * D)) := hgap
        clear hgap
        have HSZ : Hid (Sz (-flo2 (-(A * D))) 1000000) := (flo2_sz ((HS1.out.mul' HDS.out).neg') (by decide)).neg.mono (by decide)
        have KEEP : ∀ u, Below W323.heap.size W323 u → AllL u [(0, fun w' => w'.cell? ⟨v320, 0, none⟩ = some (.bool np) ∧ w'.cell? ⟨v320, 1, none⟩ = some (.slice po pl pc)), (2, fun w' => w'.cell? ⟨v323, 0, none⟩ = some (.bool nr) ∧ w'.cell? ⟨v323, 1, none⟩ = some (.slice ro rl rc))] := fun u B => ⟨(qp.below B).cells, (qr.below B).cells, trivial⟩
        refine region_late [(0, fun w' => w'.cell? ⟨v320, 0, none⟩ = some (.bool np) ∧ w'.cell? ⟨v320, 1, none⟩ = some (.slice po pl pc)), (2, fun w' => w'.cell? ⟨v323, 0, none⟩ = some (.bool nr) ∧ w'.cell? ⟨v323, 1, none⟩ = some (.slice ro rl rc))] (by kernel_rfl) ?_
        have BZ : Below W323.heap.size W323 W323.drew := below_drew' _
        obtain ⟨wz, hwz⟩ : ∃ u, u = W323.drew := ⟨_, rfl⟩
        rw [← hwz] at BZ ⊢
        clear hwz
        have hHeld := KEEP _ BZ
        have kip := ip.below BZ
        have kir := ir.below BZ
        refine late_tk 0 (v := .agg #[.bool np, .slice po pl pc]) rfl (List.Mem.head _) (Or.inl ⟨by rfl, ?_⟩) hHeld ?_
        · (intro u hu; (try dsimp only at hu); go_split_ands; go_simp)
        (try simp only [Act.put, putA, putB, putC])
        refine late_tk 2 (v := .agg #[.bool nr, .slice ro rl rc]) rfl (List.Mem.tail _ (List.Mem.head _)) (Or.inl ⟨by rfl, ?_⟩) hHeld ?_
        · (intro u hu; (try dsimp only at hu); go_split_ands; go_simp)
        (try simp only [Act.put, putA, putB, putC])
        refine late_st 1 rfl (fun K hK => ?_)
        go_simp
        refine (c_neg kip).mono ?_
        rintro e w324 ⟨v, rfl, hv9, b324⟩
        obtain ⟨ny, yo, yl, yc, rfl, iy⟩ := hv9.see HSZ.out (Nat.le_refl _)
        clear hv9 kip
        replace kir := kir.below b324
        have B324 : Below W323.heap.size W323 w324 := bstep BZ b324
        clear BZ b324
        replace hHeld := KEEP _ B324
        go_wp2_with fail
        refine hK.out _ _ (AllL.kept hHeld) ?_
        clear hK K
        (try simp only [Act.put, putA, putB, putC])
        have hq := c_cmp iy kir
        obtain ⟨c, hc⟩ : ∃ c, c = cmpZ (-flo2 (-(A * D))) (flo2 (B * D)) := ⟨_, rfl⟩
        have hcc : ¬ c ≤ 0 := by rw [hc]; have := HGAP.out; unfold cmpZ; rw [if_neg (by omega), if_neg (by omega)]; decide
        rw [← hc] at hq
        clear hc
        refine late_st 3 rfl (fun K hK => ?_)
        go_simp
        refine (hq).mono ?_
        rintro e w325 ⟨rfl, b325⟩
        clear hq iy kir
        have B325 : Below W323.heap.size W323 w325 := bstep B324 b325
        clear B324 b325
        replace hHeld := KEEP _ B325
        go_wp2_with fail
        refine hK.out _ _ (AllL.kept hHeld) ?_
        clear hK K
        (try simp only [Act.put, putA, putB, putC])
        refine late_st 4 rfl (fun K hK => ?_)
        go_simp
        refine hK.out _ _ (AllL.kept hHeld) ?_
        clear hK K
        (try simp only [Act.put, putA, putB, putC])
        refine late_done (by kernel_rfl) ?_ _
        clear KEEP hHeld
        have b := B325
        clear B325
        replace hX := hX.below b
        replace hY := hY.below b
        replace hv := hv.below b
        replace hdn := hdn.below (Nat.le_refl _) b
        replace hW := hW.below b
        replace hb0 := bstep hb0 b
        replace hvd := hvd.below b
        replace hE := hE.below b
        replace rj := rj.below b
        replace rk := rk.below b
        replace ip := ip.below b
        replace rf := rf.below b
        replace ir := ir.below b
        replace qx := qx.below b
        replace qy := qy.below b
        replace qs := qs.below b
        replace qd := qd.below b
        replace qp := qp.below b
        replace qr := qr.below b
        replace hb := bstep hb b
        replace hsz := Nat.lt_of_lt_of_le hsz b.size
        clear b
        have HEND : Hid (Below w12.heap.size w12 w325) := hb0
        clear hb0 hb hsz qx qy qs qd qp qr hX hY hv hdn hW hvd hE rj rk ip rf ir
        go_wp2
        go_roundw
        case rel => exact ⟨d + 1, by omega, by omega, by go_num, HEND.out⟩
        case measure => simp [intOf]; omega
    · have hdi : ¬ (d : Int) ≤ 200 := by omega
      obtain ⟨cqx0, cqx1, cqx2⟩ := qx.cells
      obtain ⟨cqy0, cqy1, cqy2⟩ := qy.cells
      obtain ⟨cqs0, cqs1, cqs2⟩ := qs.cells
      go_wp2_with fail
      clear cqx0 cqx1 cqx2 cqy0 cqy1 cqy2 cqs0 cqs1 cqs2
      have hq := wSign hW
      obtain ⟨c, hc⟩ : ∃ c, c = sgnQ S := ⟨_, rfl⟩
      have HCS : Hid (c = sgnQ S) := hc
      rw [← hc] at hq
      clear hc
      refine (hq).mono ?_
      rintro e w213 ⟨rfl, b⟩
      clear hq
      replace hX := hX.below b
      replace hY := hY.below b
      replace hv := hv.below b
      replace hdn := hdn.below (Nat.le_refl _) b
      replace hW := hW.below b
      replace hb0 := bstep hb0 b
      replace qx := qx.below b
      replace qy := qy.below b
      replace qs := qs.below b
      replace hb := bstep hb b
      replace hsz := Nat.lt_of_lt_of_le hsz b.size
      clear b
      by_cases hz : c = 0
      · have HE : Hid (Below w.heap.size w w213) := hb
        clear hb hsz qx qy qs hX hY hv hdn hW hb0
        go_wp2
        go_ret
        exact ⟨rfl, HE.out⟩
      · obtain ⟨cqx0, cqx1, cqx2⟩ := qx.cells
        obtain ⟨cqy0, cqy1, cqy2⟩ := qy.cells
        obtain ⟨cqs0, cqs1, cqs2⟩ := qs.cells
        go_wp2_with fail
        clear cqx0 cqx1 cqx2 cqy0 cqy1 cqy2 cqs0 cqs1 cqs2
        have HCB : Hid ((c = 1 ∧ 0 < S.num) ∨ (c = -1 ∧ S.num < 0)) := by
          have h := HCS.out
          unfold sgnQ cmpZ at h
          split at h
          · exact Or.inr ⟨h, by assumption⟩
          · split at h
            · exact absurd h hz
            · exact Or.inl ⟨h, by omega⟩
        have HBD : Hid (-9223372036854775808 ≤ c ∧ c ≤ 9223372036854775807 ∧ Sz c 1) := by
          rcases HCB.out with h | h
          · rw [h.1]; exact ⟨by decide, by decide, Sz.one⟩
          · rw [h.1]; exact ⟨by decide, by decide, Sz.one.neg⟩
        obtain ⟨T, hT⟩ : ∃ T, T = Rat.divInt c (S.den : Int) := ⟨_, rfl⟩
        have HT : Hid (Rat.divInt c (S.den : Int) = T) := hT.symm
        have hdz : (S.den : Int) ≠ 0 := by have := S.den_pos; omega
        have HTS : Hid (RSz T 3) := by show RSz _ _; rw [hT]; exact RSz.of hdz (HBD.out.2.2.mono (by decide)) HSS.out.den
        have HDL : Hid ((lim S.den).length ≤ 1000000) := by have := HSS.out.den.len; rw [Int.natAbs_natCast] at this; exact Nat.le_trans this (by decide)
        have HDZ : Hid ((S.den : Int) ≠ 0) := hdz
        clear hT hdz
        go_cut [16, 17] (fun t u wx => ∃ v n o l c O L C, t = .pointer (some ⟨v, 0, none⟩) ∧ u = .int .i64 0 ∧ QCell wx v n (.slice o l c) (.slice O L C) ∧ RW wx (.agg #[.bool n, .slice o l c, .slice O L C]) T ∧ Below w213.heap.size w213 wx)
        case first =>
          have KEEP : ∀ u, Below w213.heap.size w213 u → L2.AllL u [(0, fun w' => w'.cell? ⟨v9, 0, none⟩ = some (.bool bs) ∧ w'.cell? ⟨v9, 1, none⟩ = some (.slice so sl sc) ∧ w'.cell? ⟨v9, 2, none⟩ = some (.slice sO sL sC)), (4, fun w' => w'.cell? ⟨v9, 2, none⟩ = some (.slice sO sL sC))] := fun u B => ⟨(qs.below B).cells, (qs.below B).cells.2.2, trivial⟩
          refine L2.region_late [(0, fun w' => w'.cell? ⟨v9, 0, none⟩ = some (.bool bs) ∧ w'.cell? ⟨v9, 1, none⟩ = some (.slice so sl sc) ∧ w'.cell? ⟨v9, 2, none⟩ = some (.slice sO sL sC)), (4, fun w' => w'.cell? ⟨v9, 2, none⟩ = some (.slice sO sL sC))] (by kernel_rfl) ?_
          have B0 : Below w213.heap.size w213 w213.drew := below_drew' _
          obtain ⟨w0, hw0⟩ : ∃ u, u = w213.drew := ⟨_, rfl⟩
          rw [← hw0] at B0 ⊢
          clear hw0
          have hHeld := KEEP _ B0
          have kW := hW.below B0
          have kd := hdn.below (Nat.le_refl _) B0
          refine L2.late_take 0 (v := .agg #[.bool bs, .slice so sl sc, .slice sO sL sC]) rfl (by kernel_rfl) (List.Mem.head _) (by kernel_rfl) (by kernel_rfl) (by kernel_rfl) (by kernel_rfl) (fun _ _ _ h => h) (Or.inl ⟨by rfl, ?_⟩) hHeld ?_
          · (intro u hu; (try dsimp only at hu); go_split_ands; go_simp)
          (try simp only [Act.put, putA, putB, putC])
          refine L2.late_free 3 (v := .pointer (some ⟨v9, 2, none⟩)) rfl (by kernel_rfl) (by kernel_rfl) (by kernel_rfl) (by kernel_rfl) (by kernel_rfl) (by kernel_rfl) (fun _ _ _ h => h) (Or.inl ⟨by rfl, ?_⟩) hHeld ?_
          · (intro u _; go_simp)
          (try simp only [Act.put, putA, putB, putC])
          refine L2.late_take 4 (v := .slice sO sL sC) rfl (by kernel_rfl) (List.Mem.tail _ (List.Mem.head _)) (by kernel_rfl) (by kernel_rfl) (by kernel_rfl) (by kernel_rfl) (fun _ _ _ h => h) (Or.inl ⟨by rfl, ?_⟩) hHeld ?_
          · (intro u hu; (try dsimp only at hu); go_split_ands; go_simp)
          (try simp only [Act.put, putA, putB, putC])
          refine L2.late_free 5 (v := .agg #[.bool false, .slice sO sL sC]) rfl (by kernel_rfl) (by kernel_rfl) (by kernel_rfl) (by kernel_rfl) (by kernel_rfl) (by kernel_rfl) (fun _ _ _ h => h) (Or.inl ⟨by rfl, ?_⟩) hHeld ?_
          · (intro u _; go_simp)
          (try simp only [Act.put, putA, putB, putC])
          refine L2.late_two 1 10 (by kernel_rfl) rfl rfl (fun K hK => ?t331) (fun K hK => ?t332)
          case' t331 =>
           go_simp
           have hq := wSign kW
           rw [← HCS.out] at hq
           refine hq.mono ?_
           rintro e w314 ⟨rfl, b314⟩
           clear hq kW
           replace kd := kd.below (Nat.le_refl _) b314
           have B314 : Below w213.heap.size w213 w314 := bstep B0 b314
           clear b314
           replace hHeld := KEEP _ B314
           go_wp2_with fail
           refine hK.out _ _ (L2.AllL.kept hHeld) ?_
           clear hK K
           (try simp only [Act.put, putA, putB, putC])
           refine L2.late_two 2 10 (by kernel_rfl) rfl rfl (fun K hK => ?t325) (fun K hK => ?t326)
           case' t325 =>
            go_simp
            refine (c_of (n := c) HBD.out.1 HBD.out.2.1).mono ?_
            rintro e w315 ⟨v, rfl, hv9, b315⟩
            obtain ⟨gn, go_, gl, gc, rfl, ig⟩ := hv9.see HBD.out.2.2 (by decide)
            clear hv9
            replace kd := kd.below (Nat.le_refl _) b315
            have B315 : Below w213.heap.size w213 w315 := bstep B314 b315
            clear b315
            replace hHeld := KEEP _ B315
            go_wp2_with fail
            refine hK.out _ _ (L2.AllL.kept hHeld) ?_
            clear hK K
            (try simp only [Act.put, putA, putB, putC])
            refine L2.late_two 6 10 (by kernel_rfl) rfl rfl (fun K hK => ?t320) (fun K hK => ?t321)
            case' t320 =>
             go_simp
             have idn : INum _ (.agg #[.bool false, .slice sO sL sC]) (S.den : Int) := ⟨false, sO, sL, sC, lim S.den, rfl, kd, HDL.out, by rw [val_lim]; rfl⟩
             have hq := c_new_yes ig idn HDZ.out
             rw [HT.out] at hq
             refine hq.mono ?_
             rintro e w316 ⟨v, rfl, hv9, b316⟩
             clear hq idn ig kd
             have rT := hv9.rw (HTS.out.mono (by decide))
             obtain ⟨m, d9, rfl, hm, hd9, hap⟩ := hv9
             obtain ⟨to9, tl, tc, rfl⟩ := hm.sl
             obtain ⟨tO, tL, tC, rfl⟩ := hd9.sl
             clear hm hd9 hap
             generalize decide (T.num < 0) = bT at *
             have B316 : Below w213.heap.size w213 w316 := bstep B315 b316
             clear b316
             replace hHeld := KEEP _ B316
             go_wp2_with fail
             refine hK.out _ _ (L2.AllL.kept hHeld) ?_
             clear hK K
             (try simp only [Act.put, putA, putB, putC])
             refine L2.late_free 7 (v := .tuple #[.agg #[.bool bT, .slice to9 tl tc, .slice tO tL tC], .int .i64 0]) rfl (by kernel_rfl) (by kernel_rfl) (by kernel_rfl) (by kernel_rfl) (by kernel_rfl) (by kernel_rfl) (fun _ _ _ h => h) (Or.inl ⟨by rfl, ?_⟩) hHeld ?_
             · (intro u _; go_simp)
             (try simp only [Act.put, putA, putB, putC])
             refine L2.late_free 8 (v := .agg #[.bool bT, .slice to9 tl tc, .slice tO tL tC]) rfl (by kernel_rfl) (by kernel_rfl) (by kernel_rfl) (by kernel_rfl) (by kernel_rfl) (by kernel_rfl) (fun _ _ _ h => h) (Or.inl ⟨by rfl, ?_⟩) hHeld ?_
             · (intro u _; go_simp)
             (try simp only [Act.put, putA, putB, putC])
             refine L2.late_free 9 (v := .int .i64 0) rfl (by kernel_rfl) (by kernel_rfl) (by kernel_rfl) (by kernel_rfl) (by kernel_rfl) (by kernel_rfl) (fun _ _ _ h => h) (Or.inl ⟨by rfl, ?_⟩) hHeld ?_
             · (intro u _; go_simp)
             (try simp only [Act.put, putA, putB, putC])
             refine L2.late_step 10 (by kernel_rfl) rfl (fun K hK => ?_)
             go_simp
             obtain ⟨w317, vx, hw, hv, pvx, b317, B317⟩ := new_pq B316
             rw [hw, hv]
             clear hw hv
             replace rT := rT.below b317
             clear b317
             replace hHeld := KEEP _ B317
             refine hK.out _ _ (L2.AllL.kept hHeld) ?_
             clear hK K
             (try simp only [Act.put, putA, putB, putC])
             have Bz := B317
             obtain ⟨wl, rfl⟩ : ∃ u, u = w317 := ⟨_, rfl⟩
            case' t321 =>
             go_simp
             obtain ⟨w318, vx, hw, hv, pvx, b318, B318⟩ := new_pq B315
             rw [hw, hv]
             clear hw hv
             replace kd := kd.below (Nat.le_refl _) b318
             replace ig := ig.below b318
             clear b318
             replace hHeld := KEEP _ B318
             refine hK.out _ _ (L2.AllL.kept hHeld) ?_
             clear hK K
             (try simp only [Act.put, putA, putB, putC])
             refine L2.late_step 6 (by kernel_rfl) rfl (fun K hK => ?_)
             go_simp
             have idn : INum _ (.agg #[.bool false, .slice sO sL sC]) (S.den : Int) := ⟨false, sO, sL, sC, lim S.den, rfl, kd, HDL.out, by rw [val_lim]; rfl⟩
             have hq := c_new_yes ig idn HDZ.out
             rw [HT.out] at hq
             refine hq.mono ?_
             rintro e w319 ⟨v, rfl, hv9, b319⟩
             clear hq idn ig kd
             have rT := hv9.rw (HTS.out.mono (by decide))
             obtain ⟨m, d9, rfl, hm, hd9, hap⟩ := hv9
             obtain ⟨to9, tl, tc, rfl⟩ := hm.sl
             obtain ⟨tO, tL, tC, rfl⟩ := hd9.sl
             clear hm hd9 hap
             generalize decide (T.num < 0) = bT at *
             replace pvx := pvx.below b319
             have B319 : Below w213.heap.size w213 w319 := bstep B318 b319
             clear b319
             replace hHeld := KEEP _ B319
             go_wp2_with fail
             refine hK.out _ _ (L2.AllL.kept hHeld) ?_
             clear hK K
             (try simp only [Act.put, putA, putB, putC])
             refine L2.late_free 7 (v := .tuple #[.agg #[.bool bT, .slice to9 tl tc, .slice tO tL tC], .int .i64 0]) rfl (by kernel_rfl) (by kernel_rfl) (by kernel_rfl) (by kernel_rfl) (by kernel_rfl) (by kernel_rfl) (fun _ _ _ h => h) (Or.inl ⟨by rfl, ?_⟩) hHeld ?_
             · (intro u _; go_simp)
             (try simp only [Act.put, putA, putB, putC])
             refine L2.late_free 8 (v := .agg #[.bool bT, .slice to9 tl tc, .slice tO tL tC]) rfl (by kernel_rfl) (by kernel_rfl) (by kernel_rfl) (by kernel_rfl) (by kernel_rfl) (by kernel_rfl) (fun _ _ _ h => h) (Or.inl ⟨by rfl, ?_⟩) hHeld ?_
             · (intro u _; go_simp)
             (try simp only [Act.put, putA, putB, putC])
             refine L2.late_free 9 (v := .int .i64 0) rfl (by kernel_rfl) (by kernel_rfl) (by kernel_rfl) (by kernel_rfl) (by kernel_rfl) (by kernel_rfl) (fun _ _ _ h => h) (Or.inl ⟨by rfl, ?_⟩) hHeld ?_
             · (intro u _; go_simp)
             (try simp only [Act.put, putA, putB, putC])
             have Bz := B319
             obtain ⟨wl, rfl⟩ : ∃ u, u = w319 := ⟨_, rfl⟩
           case' t326 =>
            go_simp
            obtain ⟨w322, vx, hw, hv, pvx, b322, B322⟩ := new_pq B314
            rw [hw, hv]
            clear hw hv
            replace kd := kd.below (Nat.le_refl _) b322
            clear b322
            replace hHeld := KEEP _ B322
            refine hK.out _ _ (L2.AllL.kept hHeld) ?_
            clear hK K
            (try simp only [Act.put, putA, putB, putC])
            refine L2.late_step 2 (by kernel_rfl) rfl (fun K hK => ?_)
            go_simp
            refine (c_of (n := c) HBD.out.1 HBD.out.2.1).mono ?_
            rintro e w323 ⟨v, rfl, hv9, b323⟩
            obtain ⟨gn, go_, gl, gc, rfl, ig⟩ := hv9.see HBD.out.2.2 (by decide)
            clear hv9
            replace kd := kd.below (Nat.le_refl _) b323
            replace pvx := pvx.below b323
            have B323 : Below w213.heap.size w213 w323 := bstep B322 b323
            clear b323
            replace hHeld := KEEP _ B323
            go_wp2_with fail
            refine hK.out _ _ (L2.AllL.kept hHeld) ?_
            clear hK K
            (try simp only [Act.put, putA, putB, putC])
            refine L2.late_step 6 (by kernel_rfl) rfl (fun K hK => ?_)
            go_simp
            have idn : INum _ (.agg #[.bool false, .slice sO sL sC]) (S.den : Int) := ⟨false, sO, sL, sC, lim S.den, rfl, kd, HDL.out, by rw [val_lim]; rfl⟩
            have hq := c_new_yes ig idn HDZ.out
            rw [HT.out] at hq
            refine hq.mono ?_
            rintro e w324 ⟨v, rfl, hv9, b324⟩
            clear hq idn ig kd
            have rT := hv9.rw (HTS.out.mono (by decide))
            obtain ⟨m, d9, rfl, hm, hd9, hap⟩ := hv9
            obtain ⟨to9, tl, tc, rfl⟩ := hm.sl
            obtain ⟨tO, tL, tC, rfl⟩ := hd9.sl
            clear hm hd9 hap
            generalize decide (T.num < 0) = bT at *
            replace pvx := pvx.below b324
            have B324 : Below w213.heap.size w213 w324 := bstep B323 b324
            clear b324
            replace hHeld := KEEP _ B324
            go_wp2_with fail
            refine hK.out _ _ (L2.AllL.kept hHeld) ?_
            clear hK K
            (try simp only [Act.put, putA, putB, putC])
            refine L2.late_free 7 (v := .tuple #[.agg #[.bool bT, .slice to9 tl tc, .slice tO tL tC], .int .i64 0]) rfl (by kernel_rfl) (by kernel_rfl) (by kernel_rfl) (by kernel_rfl) (by kernel_rfl) (by kernel_rfl) (fun _ _ _ h => h) (Or.inl ⟨by rfl, ?_⟩) hHeld ?_
            · (intro u _; go_simp)
            (try simp only [Act.put, putA, putB, putC])
            refine L2.late_free 8 (v := .agg #[.bool bT, .slice to9 tl tc, .slice tO tL tC]) rfl (by kernel_rfl) (by kernel_rfl) (by kernel_rfl) (by kernel_rfl) (by kernel_rfl) (by kernel_rfl) (fun _ _ _ h => h) (Or.inl ⟨by rfl, ?_⟩) hHeld ?_
            · (intro u _; go_simp)
            (try simp only [Act.put, putA, putB, putC])
            refine L2.late_free 9 (v := .int .i64 0) rfl (by kernel_rfl) (by kernel_rfl) (by kernel_rfl) (by kernel_rfl) (by kernel_rfl) (by kernel_rfl) (fun _ _ _ h => h) (Or.inl ⟨by rfl, ?_⟩) hHeld ?_
            · (intro u _; go_simp)
            (try simp only [Act.put, putA, putB, putC])
            have Bz := B324
            obtain ⟨wl, rfl⟩ : ∃ u, u = w324 := ⟨_, rfl⟩
          case' t332 =>
           go_simp
           obtain ⟨w327, vx, hw, hv, pvx, b327, B327⟩ := new_pq B0
           rw [hw, hv]
           clear hw hv
           replace kW := kW.below b327
           replace kd := kd.below (Nat.le_refl _) b327
           clear b327
           replace hHeld := KEEP _ B327
           refine hK.out _ _ (L2.AllL.kept hHeld) ?_
           clear hK K
           (try simp only [Act.put, putA, putB, putC])
           refine L2.late_step 1 (by kernel_rfl) rfl (fun K hK => ?_)
           go_simp
           have hq := wSign kW
           rw [← HCS.out] at hq
           refine hq.mono ?_
           rintro e w328 ⟨rfl, b328⟩
           clear hq kW
           replace kd := kd.below (Nat.le_refl _) b328
           replace pvx := pvx.below b328
           have B328 : Below w213.heap.size w213 w328 := bstep B327 b328
           clear b328
           replace hHeld := KEEP _ B328
           go_wp2_with fail
           refine hK.out _ _ (L2.AllL.kept hHeld) ?_
           clear hK K
           (try simp only [Act.put, putA, putB, putC])
           refine L2.late_step 2 (by kernel_rfl) rfl (fun K hK => ?_)
           go_simp
           refine (c_of (n := c) HBD.out.1 HBD.out.2.1).mono ?_
           rintro e w329 ⟨v, rfl, hv9, b329⟩
           obtain ⟨gn, go_, gl, gc, rfl, ig⟩ := hv9.see HBD.out.2.2 (by decide)
           clear hv9
           replace kd := kd.below (Nat.le_refl _) b329
           replace pvx := pvx.below b329
           have B329 : Below w213.heap.size w213 w329 := bstep B328 b329
           clear b329
           replace hHeld := KEEP _ B329
           go_wp2_with fail
           refine hK.out _ _ (L2.AllL.kept hHeld) ?_
           clear hK K
           (try simp only [Act.put, putA, putB, putC])
           refine L2.late_step 6 (by kernel_rfl) rfl (fun K hK => ?_)
           go_simp
           have idn : INum _ (.agg #[.bool false, .slice sO sL sC]) (S.den : Int) := ⟨false, sO, sL, sC, lim S.den, rfl, kd, HDL.out, by rw [val_lim]; rfl⟩
           have hq := c_new_yes ig idn HDZ.out
           rw [HT.out] at hq
           refine hq.mono ?_
           rintro e w330 ⟨v, rfl, hv9, b330⟩
           clear hq idn ig kd
           have rT := hv9.rw (HTS.out.mono (by decide))
           obtain ⟨m, d9, rfl, hm, hd9, hap⟩ := hv9
           obtain ⟨to9, tl, tc, rfl⟩ := hm.sl
           obtain ⟨tO, tL, tC, rfl⟩ := hd9.sl
           clear hm hd9 hap
           generalize decide (T.num < 0) = bT at *
           replace pvx := pvx.below b330
           have B330 : Below w213.heap.size w213 w330 := bstep B329 b330
           clear b330
           replace hHeld := KEEP _ B330
           go_wp2_with fail
           refine hK.out _ _ (L2.AllL.kept hHeld) ?_
           clear hK K
           (try simp only [Act.put, putA, putB, putC])
           refine L2.late_free 7 (v := .tuple #[.agg #[.bool bT, .slice to9 tl tc, .slice tO tL tC], .int .i64 0]) rfl (by kernel_rfl) (by kernel_rfl) (by kernel_rfl) (by kernel_rfl) (by kernel_rfl) (by kernel_rfl) (fun _ _ _ h => h) (Or.inl ⟨by rfl, ?_⟩) hHeld ?_
           · (intro u _; go_simp)
           (try simp only [Act.put, putA, putB, putC])
           refine L2.late_free 8 (v := .agg #[.bool bT, .slice to9 tl tc, .slice tO tL tC]) rfl (by kernel_rfl) (by kernel_rfl) (by kernel_rfl) (by kernel_rfl) (by kernel_rfl) (by kernel_rfl) (fun _ _ _ h => h) (Or.inl ⟨by rfl, ?_⟩) hHeld ?_
           · (intro u _; go_simp)
           (try simp only [Act.put, putA, putB, putC])
           refine L2.late_free 9 (v := .int .i64 0) rfl (by kernel_rfl) (by kernel_rfl) (by kernel_rfl) (by kernel_rfl) (by kernel_rfl) (by kernel_rfl) (fun _ _ _ h => h) (Or.inl ⟨by rfl, ?_⟩) hHeld ?_
           · (intro u _; go_simp)
           (try simp only [Act.put, putA, putB, putC])
           have Bz := B330
           obtain ⟨wl, rfl⟩ : ∃ u, u = w330 := ⟨_, rfl⟩
          all_goals
            have HPQ : Hid _ := pq_end pvx rT Bz
            obtain ⟨y0, y1, y2⟩ := pvx.c.cells
            have f0 := pvx.c.thaw 0
            have f1 := pvx.c.thaw 1
            have f2 := pvx.c.thaw 2
            clear pvx rT Bz KEEP
            refine L2.late_step 11 (by kernel_rfl) rfl (fun K hK => ?_)
            go_simp
            refine hK.out _ _ ⟨kpt 1, kpt 11, trivial⟩ ?_
            clear hK K
            (try simp only [Act.put, putA, putB, putC])
            refine L2.late_step 12 (by kernel_rfl) rfl (fun K hK => ?_)
            go_simp
            refine hK.out _ _ ⟨kpt 1, kpt 11, trivial⟩ ?_
            clear hK K
            (try simp only [Act.put, putA, putB, putC])
            refine L2.late_done (by kernel_rfl) ?_ _
            clear hHeld y0 y1 y2 f0 f1 f2
            go_wp2_with fail
            go_meet
            exact ⟨_, _, _, _, _, _, _, _, rfl, rfl, HPQ.out⟩
        case rest =>
          obtain ⟨v16, nT, to9, tl, tc, tO, tL, tC, rfl, rfl, qT, rT, b⟩ := hcut
          replace hX := hX.below b
          replace hY := hY.below b
          replace hv := hv.below b
          replace hdn := hdn.below (Nat.le_refl _) b
          replace hW := hW.below b
          replace hb0 := bstep hb0 b
          replace qx := qx.below b
          replace qy := qy.below b
          replace qs := qs.below b
          replace hb := bstep hb b
          replace hsz := Nat.lt_of_lt_of_le hsz b.size
          clear b
          obtain ⟨cqx0, cqx1, cqx2⟩ := qx.cells
          obtain ⟨cqy0, cqy1, cqy2⟩ := qy.cells
          obtain ⟨cqs0, cqs1, cqs2⟩ := qs.cells
          obtain ⟨cqT0, cqT1, cqT2⟩ := qT.cells
          go_wp2_with fail
          clear cqx0 cqx1 cqx2 cqy0 cqy1 cqy2 cqs0 cqs1 cqs2 cqT0 cqT1 cqT2
          have hq := wSub hW rT
          obtain ⟨R, hR⟩ : ∃ R, R = S - T := ⟨_, rfl⟩
          have HRS : Hid (RSz R 40) := by show RSz _ _; rw [hR]; exact (HSS.out.sub' HTS.out).mono (by decide)
          have HNR : Hid (cmpQ R A < 0 ∨ 0 < cmpQ R B) := by
            refine sp_nearer HAB.out R S HSP.out (S.num - c) ?_ ?_
            · rcases HCB.out with h | h <;> omega
            · rw [hR, ← HT.out]
              conv => lhs; lhs; rw [← Rat.num_divInt_den S]
              rw [Rat.divInt_sub_divInt _ _ HDZ.out HDZ.out, ← Int.sub_mul]
              rw [Rat.divInt_mul_right HDZ.out]
          rw [← hR] at hq
          clear hR
          refine (hq).mono ?_
          rintro e w433 ⟨v, rfl, hv9, b⟩
          clear hq
          have rR := hv9.rw HRS.out
          obtain ⟨m, d9, rfl, hm, hd9, hap⟩ := hv9
          obtain ⟨ko, kl, kc, rfl⟩ := hm.sl
          obtain ⟨kO, kL, kC, rfl⟩ := hd9.sl
          clear hm hd9 hap
          generalize decide (R.num < 0) = bR at *
          replace hX := hX.below b
          replace hY := hY.below b
          replace hv := hv.below b
          replace hdn := hdn.below (Nat.le_refl _) b
          replace hW := hW.below b
          replace hb0 := bstep hb0 b
          replace rT := rT.below b
          replace qx := qx.below b
          replace qy := qy.below b
          replace qs := qs.below b
          replace qT := qT.below b
          replace hb := bstep hb b
          replace hsz := Nat.lt_of_lt_of_le hsz b.size
          clear b
          have hq0 : QCell (w433.alloc (.cells #[.bool false, .slice none 0 0, .slice none 0 0] 27)) w433.heap.size false (.slice none 0 0) (.slice none 0 0) := qcell_new _ rfl
          obtain ⟨W434, hW434⟩ : ∃ W, W = w433.alloc (.cells #[.bool bR, .slice ko kl kc, .slice kO kL kC] 27) := ⟨_, rfl⟩
          have qn : QCell W434 (w433.heap.size) bR (.slice ko kl kc) (.slice kO kL kC) := by rw [hW434]; exact qcell_new _ rfl
          have b : Below w433.heap.size w433 W434 := by rw [hW434]; exact belowA _ _
          obtain ⟨z0, z1, z2⟩ := hq0.cells
          have t0 := hq0.thaw 0
          have t1 := hq0.thaw 1
          have t2 := hq0.thaw 2
          clear hq0
          replace hX := hX.below b
          replace hY := hY.below b
          replace hv := hv.below b
          replace hdn := hdn.below (Nat.le_refl _) b
          replace hW := hW.below b
          replace hb0 := bstep hb0 b
          replace rT := rT.below b
          replace rR := rR.below b
          replace qx := qx.below b
          replace qy := qy.below b
          replace qs := qs.below b
          replace qT := qT.below b
          replace hb := bstep hb b
          replace hsz := Nat.lt_of_lt_of_le hsz b.size
          clear b
          have rqx0 : (w433.alloc (.cells #[.bool bR, .slice ko kl kc, .slice kO kL kC] 27)).cell? ⟨v4, 0, none⟩ = some (.bool na) := by rw [← hW434]; exact qx.cells.1
          have rqx1 : (w433.alloc (.cells #[.bool bR, .slice ko kl kc, .slice kO kL kC] 27)).cell? ⟨v4, 1, none⟩ = some (.slice ao al2 ac) := by rw [← hW434]; exact qx.cells.2.1
          have rqx2 : (w433.alloc (.cells #[.bool bR, .slice ko kl kc, .slice kO kL kC] 27)).cell? ⟨v4, 2, none⟩ = some (.slice aO aL2 aC) := by rw [← hW434]; exact qx.cells.2.2
          have rqy0 : (w433.alloc (.cells #[.bool bR, .slice ko kl kc, .slice kO kL kC] 27)).cell? ⟨v6, 0, none⟩ = some (.bool nb) := by rw [← hW434]; exact qy.cells.1
          have rqy1 : (w433.alloc (.cells #[.bool bR, .slice ko kl kc, .slice kO kL kC] 27)).cell? ⟨v6, 1, none⟩ = some (.slice bo bl2 bc) := by rw [← hW434]; exact qy.cells.2.1
          have rqy2 : (w433.alloc (.cells #[.bool bR, .slice ko kl kc, .slice kO kL kC] 27)).cell? ⟨v6, 2, none⟩ = some (.slice bO bL2 bC) := by rw [← hW434]; exact qy.cells.2.2
          have rqs0 : (w433.alloc (.cells #[.bool bR, .slice ko kl kc, .slice kO kL kC] 27)).cell? ⟨v9, 0, none⟩ = some (.bool bs) := by rw [← hW434]; exact qs.cells.1
          have rqs1 : (w433.alloc (.cells #[.bool bR, .slice ko kl kc, .slice kO kL kC] 27)).cell? ⟨v9, 1, none⟩ = some (.slice so sl sc) := by rw [← hW434]; exact qs.cells.2.1
          have rqs2 : (w433.alloc (.cells #[.bool bR, .slice ko kl kc, .slice kO kL kC] 27)).cell? ⟨v9, 2, none⟩ = some (.slice sO sL sC) := by rw [← hW434]; exact qs.cells.2.2
          have rqT0 : (w433.alloc (.cells #[.bool bR, .slice ko kl kc, .slice kO kL kC] 27)).cell? ⟨v16, 0, none⟩ = some (.bool nT) := by rw [← hW434]; exact qT.cells.1
          have rqT1 : (w433.alloc (.cells #[.bool bR, .slice ko kl kc, .slice kO kL kC] 27)).cell? ⟨v16, 1, none⟩ = some (.slice to9 tl tc) := by rw [← hW434]; exact qT.cells.2.1
          have rqT2 : (w433.alloc (.cells #[.bool bR, .slice ko kl kc, .slice kO kL kC] 27)).cell? ⟨v16, 2, none⟩ = some (.slice tO tL tC) := by rw [← hW434]; exact qT.cells.2.2
          have rqn0 : (w433.alloc (.cells #[.bool bR, .slice ko kl kc, .slice kO kL kC] 27)).cell? ⟨w433.heap.size, 0, none⟩ = some (.bool bR) := by rw [← hW434]; exact qn.cells.1
          have rqn1 : (w433.alloc (.cells #[.bool bR, .slice ko kl kc, .slice kO kL kC] 27)).cell? ⟨w433.heap.size, 1, none⟩ = some (.slice ko kl kc) := by rw [← hW434]; exact qn.cells.2.1
          have rqn2 : (w433.alloc (.cells #[.bool bR, .slice ko kl kc, .slice kO kL kC] 27)).cell? ⟨w433.heap.size, 2, none⟩ = some (.slice kO kL kC) := by rw [← hW434]; exact qn.cells.2.2
          obtain ⟨v434, hv434⟩ : ∃ v, v = w433.heap.size := ⟨_, rfl⟩
          rw [← hv434] at qn
          have HW434 : Hid (W434 = w433.alloc (.cells #[.bool bR, .slice ko kl kc, .slice kO kL kC] 27)) := hW434
          have Hv434 : Hid (v434 = w433.heap.size) := hv434
          clear hW434 hv434
          go_wp2_with fail
          rw [← HW434.out, ← Hv434.out]
          clear HW434 Hv434 z0 t0 z1 t1 z2 t2 rqx0 rqx1 rqx2 rqy0 rqy1 rqy2 rqs0 rqs1 rqs2 rqT0 rqT1 rqT2 rqn0 rqn1 rqn2 
          by_cases h8 : cmpQ R A < 0
          · have hq := wCmp rR hX
            obtain ⟨c9, hc⟩ : ∃ c, c = cmpQ R A := ⟨_, rfl⟩
            have hc9 : c9 < 0 := by rw [hc]; omega
            rw [← hc] at hq
            clear hc
            refine (hq).mono ?_
            rintro e w535 ⟨rfl, b⟩
            clear hq
            replace hX := hX.below b
            replace hY := hY.below b
            replace hv := hv.below b
            replace hdn := hdn.below (Nat.le_refl _) b
            replace hW := hW.below b
            replace hb0 := bstep hb0 b
            replace rT := rT.below b
            replace rR := rR.below b
            replace qx := qx.below b
            replace qy := qy.below b
            replace qs := qs.below b
            replace qT := qT.below b
            replace qn := qn.below b
            replace hb := bstep hb b
            replace hsz := Nat.lt_of_lt_of_le hsz b.size
            clear b
            have HE : Hid (Below w.heap.size w w535) := hb
            clear hb hsz qx qy qs qT qn hX hY hv hdn hW hb0 rT rR
            go_wp2
            go_ret
            exact ⟨rfl, HE.out⟩
          · have hq := wCmp rR hX
            obtain ⟨c9, hc⟩ : ∃ c, c = cmpQ R A := ⟨_, rfl⟩
            have hc9 : ¬ c9 < 0 := by rw [hc]; omega
            rw [← hc] at hq
            clear hc
            refine (hq).mono ?_
            rintro e w535 ⟨rfl, b⟩
            clear hq
            replace hX := hX.below b
            replace hY := hY.below b
            replace hv := hv.below b
            replace hdn := hdn.below (Nat.le_refl _) b
            replace hW := hW.below b
            replace hb0 := bstep hb0 b
            replace rT := rT.below b
            replace rR := rR.below b
            replace qx := qx.below b
            replace qy := qy.below b
            replace qs := qs.below b
            replace qT := qT.below b
            replace qn := qn.below b
            replace hb := bstep hb b
            replace hsz := Nat.lt_of_lt_of_le hsz b.size
            clear b
            obtain ⟨cqx0, cqx1, cqx2⟩ := qx.cells
            obtain ⟨cqy0, cqy1, cqy2⟩ := qy.cells
            obtain ⟨cqs0, cqs1, cqs2⟩ := qs.cells
            obtain ⟨cqT0, cqT1, cqT2⟩ := qT.cells
            obtain ⟨cqn0, cqn1, cqn2⟩ := qn.cells
            go_wp2_with fail
            clear cqx0 cqx1 cqx2 cqy0 cqy1 cqy2 cqs0 cqs1 cqs2 cqT0 cqT1 cqT2 cqn0 cqn1 cqn2
            have h9 : 0 < cmpQ R B := HNR.out.resolve_left (by omega)
            have hq := wCmp rR hY
            obtain ⟨c7, hc⟩ : ∃ c, c = cmpQ R B := ⟨_, rfl⟩
            have hc7 : 0 < c7 := by rw [hc]; omega
            rw [← hc] at hq
            clear hc
            refine (hq).mono ?_
            rintro e w536 ⟨rfl, b⟩
            clear hq
            replace hX := hX.below b
            replace hY := hY.below b
            replace hv := hv.below b
            replace hdn := hdn.below (Nat.le_refl _) b
            replace hW := hW.below b
            replace hb0 := bstep hb0 b
            replace rT := rT.below b
            replace rR := rR.below b
            replace qx := qx.below b
            replace qy := qy.below b
            replace qs := qs.below b
            replace qT := qT.below b
            replace qn := qn.below b
            replace hb := bstep hb b
            replace hsz := Nat.lt_of_lt_of_le hsz b.size
            clear b
            have HE : Hid (Below w.heap.size w w536) := hb
            clear hb hsz qx qy qs qT qn hX hY hv hdn hW hb0 rT rR
            go_wp2
            go_ret
            exact ⟨rfl, HE.out⟩
set_option maxRecDepth 100000 in
set_option maxHeartbeats 6400000 in
theorem fracLeast_yes (na : Bool) (ao aO : Option Addr) (al ac aL aC : Nat) (xa ya : List Nat) (nb : Bool) (bo bO : Option Addr) (bl bc bL bC : Nat) (xb yb : List Nat) (w : World) (ua : Num w (.slice ao al ac) xa) (va : Num w (.slice aO aL aC) ya) (ub : Num w (.slice bo bl bc) xb) (vb : Num w (.slice bO bL bC) yb) (sw : Bool) (hsw : 0 < cmpQ (rq (zv na (val (xa.take (min al 3)))) (val (ya.take (min aL 3)))) (rq (zv nb (val (xb.take (min bl 3)))) (val (yb.take (min bL 3)))) ↔ sw = true) (hs : sw = true) : Calls Tryd.prog 4 #[.agg #[.bool na, .slice ao al ac, .slice aO aL aC], .agg #[.bool nb, .slice bo bl bc, .slice bO bL bC]] w fun e w' => e = .returned (.bool true) ∧ Below w.heap.size w w' := by
  subst hs
  have h1 := (num_len ua).1
  have h2 := (num_len va).1
  have ua2 := num_cut ua (k := min al 3) (Nat.min_le_left _ _)
  have va2 := num_cut va (k := min aL 3) (Nat.min_le_left _ _)
  have HLA : Hid ((xa.take (min al 3)).length ≤ 3) := by show _ ≤ _; rw [List.length_take]; omega
  have HLa : Hid ((ya.take (min aL 3)).length ≤ 3) := by show _ ≤ _; rw [List.length_take]; omega
  clear h1 h2
  have h1 := (num_len ub).1
  have h2 := (num_len vb).1
  have ub2 := num_cut ub (k := min bl 3) (Nat.min_le_left _ _)
  have vb2 := num_cut vb (k := min bL 3) (Nat.min_le_left _ _)
  have HLB : Hid ((xb.take (min bl 3)).length ≤ 3) := by show _ ≤ _; rw [List.length_take]; omega
  have HLb : Hid ((yb.take (min bL 3)).length ≤ 3) := by show _ ≤ _; rw [List.length_take]; omega
  clear h1 h2
  have HC : Hid (0 < cmpQ (rq (zv na (val (xa.take (min al 3)))) (val (ya.take (min aL 3)))) (rq (zv nb (val (xb.take (min bl 3)))) (val (yb.take (min bL 3)))) ↔ true = true) := hsw
  clear hsw
  obtain ⟨W1, hW1⟩ : ∃ W1, W1 = (w.alloc (.cells #[.bool na, .slice ao al ac, .slice aO aL aC] 27)).alloc (.cells #[.bool nb, .slice bo bl bc, .slice bO bL bC] 27) := ⟨_, rfl⟩
  have qa : QCell W1 (w.heap.size) na (.slice ao al ac) (.slice aO aL aC) := by rw [hW1]; exact (qcell_step (qcell_new _ (by simp)))
  have qb : QCell W1 (w.heap.size + 1) nb (.slice bo bl bc) (.slice bO bL bC) := by rw [hW1]; exact (qcell_new _ (by simp))
  have hb : Below w.heap.size w W1 := by rw [hW1]; exact bstep (belowA w _) (belowA _ _)
  have hsz : w.heap.size + 1 < W1.heap.size := by rw [hW1]; simp
  have HW1 : Hid (W1 = (w.alloc (.cells #[.bool na, .slice ao al ac, .slice aO aL aC] 27)).alloc (.cells #[.bool nb, .slice bo bl bc, .slice bO bL bC] 27)) := hW1
  clear hW1
  go_enter Tryd.func4, Tryd.ntmps4
  go_wp2_with fail
  rw [← HW1.out]
  clear HW1
  obtain ⟨g, hg⟩ : ∃ g, g = w.heap.size := ⟨_, rfl⟩
  rw [← hg] at qa qb hsz ⊢
  have HG : Hid (g = w.heap.size) := hg
  clear hg
  refine (l_awake).mono ?_
  rintro e w2 ⟨rfl, b⟩
  replace qa := qa.below b
  replace qb := qb.below b
  replace hb := bstep hb b
  replace hsz := Nat.lt_of_lt_of_le hsz b.size
  clear b
  obtain ⟨cqa0, cqa1, cqa2⟩ := qa.cells
  obtain ⟨cqb0, cqb1, cqb2⟩ := qb.cells
  go_wp2_with fail
  clear cqa0 cqa1 cqa2 cqb0 cqb1 cqb2
  refine (c_cut na ao aO al ac aL aC 3 xa ya _ (ua.below (Nat.le_refl _) hb) (va.below (Nat.le_refl _) hb) (by decide)).mono ?_
  rintro e w3 ⟨rfl, b⟩
  replace qa := qa.below b
  replace qb := qb.below b
  replace hb := bstep hb b
  replace hsz := Nat.lt_of_lt_of_le hsz b.size
  clear b
  generalize min al 3 = al2 at *
  generalize xa.take al2 = xa2 at *
  generalize min aL 3 = aL2 at *
  generalize ya.take aL2 = ya2 at *
  have ls8 : w.heap.size ≤ w3.heap.size := hb.size
  have hq0 : QCell (w3.alloc (.cells #[.bool false, .slice none 0 0, .slice none 0 0] 27)) w3.heap.size false (.slice none 0 0) (.slice none 0 0) := qcell_new _ rfl
  obtain ⟨W4, hW4⟩ : ∃ W, W = w3.alloc (.cells #[.bool na, .slice ao al2 ac, .slice aO aL2 aC] 27) := ⟨_, rfl⟩
  have qx : QCell W4 (w3.heap.size) na (.slice ao al2 ac) (.slice aO aL2 aC) := by rw [hW4]; exact qcell_new _ rfl
  have b : Below w3.heap.size w3 W4 := by rw [hW4]; exact belowA _ _
  obtain ⟨z0, z1, z2⟩ := hq0.cells
  have t0 := hq0.thaw 0
  have t1 := hq0.thaw 1
  have t2 := hq0.thaw 2
  clear hq0
  replace qa := qa.below b
  replace qb := qb.below b
  replace hb := bstep hb b
  replace hsz := Nat.lt_of_lt_of_le hsz b.size
  clear b
  have rqa0 : (w3.alloc (.cells #[.bool na, .slice ao al2 ac, .slice aO aL2 aC] 27)).cell? ⟨g, 0, none⟩ = some (.bool na) := by rw [← hW4]; exact qa.cells.1
  have rqa1 : (w3.alloc (.cells #[.bool na, .slice ao al2 ac, .slice aO aL2 aC] 27)).cell? ⟨g, 1, none⟩ = some (.slice ao al ac) := by rw [← hW4]; exact qa.cells.2.1
  have rqa2 : (w3.alloc (.cells #[.bool na, .slice ao al2 ac, .slice aO aL2 aC] 27)).cell? ⟨g, 2, none⟩ = some (.slice aO aL aC) := by rw [← hW4]; exact qa.cells.2.2
  have rqb0 : (w3.alloc (.cells #[.bool na, .slice ao al2 ac, .slice aO aL2 aC] 27)).cell? ⟨g + 1, 0, none⟩ = some (.bool nb) := by rw [← hW4]; exact qb.cells.1
  have rqb1 : (w3.alloc (.cells #[.bool na, .slice ao al2 ac, .slice aO aL2 aC] 27)).cell? ⟨g + 1, 1, none⟩ = some (.slice bo bl bc) := by rw [← hW4]; exact qb.cells.2.1
  have rqb2 : (w3.alloc (.cells #[.bool na, .slice ao al2 ac, .slice aO aL2 aC] 27)).cell? ⟨g + 1, 2, none⟩ = some (.slice bO bL bC) := by rw [← hW4]; exact qb.cells.2.2
  have rqx0 : (w3.alloc (.cells #[.bool na, .slice ao al2 ac, .slice aO aL2 aC] 27)).cell? ⟨w3.heap.size, 0, none⟩ = some (.bool na) := by rw [← hW4]; exact qx.cells.1
  have rqx1 : (w3.alloc (.cells #[.bool na, .slice ao al2 ac, .slice aO aL2 aC] 27)).cell? ⟨w3.heap.size, 1, none⟩ = some (.slice ao al2 ac) := by rw [← hW4]; exact qx.cells.2.1
  have rqx2 : (w3.alloc (.cells #[.bool na, .slice ao al2 ac, .slice aO aL2 aC] 27)).cell? ⟨w3.heap.size, 2, none⟩ = some (.slice aO aL2 aC) := by rw [← hW4]; exact qx.cells.2.2
  obtain ⟨v4, hv4⟩ : ∃ v, v = w3.heap.size := ⟨_, rfl⟩
  rw [← hv4] at qx
  have HW4 : Hid (W4 = w3.alloc (.cells #[.bool na, .slice ao al2 ac, .slice aO aL2 aC] 27)) := hW4
  have Hv4 : Hid (v4 = w3.heap.size) := hv4
  clear hW4 hv4
  go_wp2_with fail
  rw [← HW4.out, ← Hv4.out]
  have hwx : w.heap.size ≤ v4 := by rw [Hv4.out]; exact ls8
  clear ls8
  clear HW4 Hv4 z0 t0 z1 t1 z2 t2 rqa0 rqa1 rqa2 rqb0 rqb1 rqb2 rqx0 rqx1 rqx2 
  refine (c_cut nb bo bO bl bc bL bC 3 xb yb _ (ub.below (Nat.le_refl _) hb) (vb.below (Nat.le_refl _) hb) (by decide)).mono ?_
  rintro e w5 ⟨rfl, b⟩
  replace qa := qa.below b
  replace qb := qb.below b
  replace qx := qx.below b
  replace hb := bstep hb b
  replace hsz := Nat.lt_of_lt_of_le hsz b.size
  clear b
  generalize min bl 3 = bl2 at *
  generalize xb.take bl2 = xb2 at *
  generalize min bL 3 = bL2 at *
  generalize yb.take bL2 = yb2 at *
  have lx9 : v4 < w5.heap.size := (Array.getElem?_eq_some_iff.1 (show w5.heap[v4]? = _ from qx)).1
  have ls9 : w.heap.size ≤ w5.heap.size := hb.size
  have hq0 : QCell (w5.alloc (.cells #[.bool false, .slice none 0 0, .slice none 0 0] 27)) w5.heap.size false (.slice none 0 0) (.slice none 0 0) := qcell_new _ rfl
  obtain ⟨W6, hW6⟩ : ∃ W, W = w5.alloc (.cells #[.bool nb, .slice bo bl2 bc, .slice bO bL2 bC] 27) := ⟨_, rfl⟩
  have qy : QCell W6 (w5.heap.size) nb (.slice bo bl2 bc) (.slice bO bL2 bC) := by rw [hW6]; exact qcell_new _ rfl
  have b : Below w5.heap.size w5 W6 := by rw [hW6]; exact belowA _ _
  obtain ⟨z0, z1, z2⟩ := hq0.cells
  have t0 := hq0.thaw 0
  have t1 := hq0.thaw 1
  have t2 := hq0.thaw 2
  clear hq0
  replace qa := qa.below b
  replace qb := qb.below b
  replace qx := qx.below b
  replace hb := bstep hb b
  replace hsz := Nat.lt_of_lt_of_le hsz b.size
  clear b
  have rqa0 : (w5.alloc (.cells #[.bool nb, .slice bo bl2 bc, .slice bO bL2 bC] 27)).cell? ⟨g, 0, none⟩ = some (.bool na) := by rw [← hW6]; exact qa.cells.1
  have rqa1 : (w5.alloc (.cells #[.bool nb, .slice bo bl2 bc, .slice bO bL2 bC] 27)).cell? ⟨g, 1, none⟩ = some (.slice ao al ac) := by rw [← hW6]; exact qa.cells.2.1
  have rqa2 : (w5.alloc (.cells #[.bool nb, .slice bo bl2 bc, .slice bO bL2 bC] 27)).cell? ⟨g, 2, none⟩ = some (.slice aO aL aC) := by rw [← hW6]; exact qa.cells.2.2
  have rqb0 : (w5.alloc (.cells #[.bool nb, .slice bo bl2 bc, .slice bO bL2 bC] 27)).cell? ⟨g + 1, 0, none⟩ = some (.bool nb) := by rw [← hW6]; exact qb.cells.1
  have rqb1 : (w5.alloc (.cells #[.bool nb, .slice bo bl2 bc, .slice bO bL2 bC] 27)).cell? ⟨g + 1, 1, none⟩ = some (.slice bo bl bc) := by rw [← hW6]; exact qb.cells.2.1
  have rqb2 : (w5.alloc (.cells #[.bool nb, .slice bo bl2 bc, .slice bO bL2 bC] 27)).cell? ⟨g + 1, 2, none⟩ = some (.slice bO bL bC) := by rw [← hW6]; exact qb.cells.2.2
  have rqx0 : (w5.alloc (.cells #[.bool nb, .slice bo bl2 bc, .slice bO bL2 bC] 27)).cell? ⟨v4, 0, none⟩ = some (.bool na) := by rw [← hW6]; exact qx.cells.1
  have rqx1 : (w5.alloc (.cells #[.bool nb, .slice bo bl2 bc, .slice bO bL2 bC] 27)).cell? ⟨v4, 1, none⟩ = some (.slice ao al2 ac) := by rw [← hW6]; exact qx.cells.2.1
  have rqx2 : (w5.alloc (.cells #[.bool nb, .slice bo bl2 bc, .slice bO bL2 bC] 27)).cell? ⟨v4, 2, none⟩ = some (.slice aO aL2 aC) := by rw [← hW6]; exact qx.cells.2.2
  have rqy0 : (w5.alloc (.cells #[.bool nb, .slice bo bl2 bc, .slice bO bL2 bC] 27)).cell? ⟨w5.heap.size, 0, none⟩ = some (.bool nb) := by rw [← hW6]; exact qy.cells.1
  have rqy1 : (w5.alloc (.cells #[.bool nb, .slice bo bl2 bc, .slice bO bL2 bC] 27)).cell? ⟨w5.heap.size, 1, none⟩ = some (.slice bo bl2 bc) := by rw [← hW6]; exact qy.cells.2.1
  have rqy2 : (w5.alloc (.cells #[.bool nb, .slice bo bl2 bc, .slice bO bL2 bC] 27)).cell? ⟨w5.heap.size, 2, none⟩ = some (.slice bO bL2 bC) := by rw [← hW6]; exact qy.cells.2.2
  obtain ⟨v6, hv6⟩ : ∃ v, v = w5.heap.size := ⟨_, rfl⟩
  rw [← hv6] at qy
  have HW6 : Hid (W6 = w5.alloc (.cells #[.bool nb, .slice bo bl2 bc, .slice bO bL2 bC] 27)) := hW6
  have Hv6 : Hid (v6 = w5.heap.size) := hv6
  clear hW6 hv6
  go_wp2_with fail
  rw [← HW6.out, ← Hv6.out]
  have hne : v4 ≠ v6 := by rw [Hv6.out]; omega
  have hwy : w.heap.size ≤ v6 := by rw [Hv6.out]; exact ls9
  clear lx9 ls9
  clear HW6 Hv6 z0 t0 z1 t1 z2 t2 rqa0 rqa1 rqa2 rqb0 rqb1 rqb2 rqx0 rqx1 rqx2 rqy0 rqy1 rqy2 
  have v1 := RV.of (n := na) (ua2.below (Nat.le_refl _) hb) (va2.below (Nat.le_refl _) hb) (Nat.le_trans HLA.out (by decide)) (Nat.le_trans HLa.out (by decide))
  have v2 := RV.of (n := nb) (ub2.below (Nat.le_refl _) hb) (vb2.below (Nat.le_refl _) hb) (Nat.le_trans HLB.out (by decide)) (Nat.le_trans HLb.out (by decide))
  have hX : RW W6 (.agg #[.bool na, .slice ao al2 ac, .slice aO aL2 aC]) _ := ⟨_, _, v1, rfl⟩
  have hY : RW W6 (.agg #[.bool nb, .slice bo bl2 bc, .slice bO bL2 bC]) _ := ⟨_, _, v2, rfl⟩
  have HS1 : Hid (RSz (rq (zv na (val xa2)) (val ya2)) 3) := rsz_raw ua2 va2 HLA.out HLa.out
  have HS2 : Hid (RSz (rq (zv nb (val xb2)) (val yb2)) 3) := rsz_raw ub2 vb2 HLB.out HLb.out
  clear v1 v2 ua va ub vb ua2 va2 ub2 vb2 HLA HLa HLB HLb
  generalize rq (zv na (val xa2)) (val ya2) = A at *
  generalize rq (zv nb (val xb2)) (val yb2) = B at *
  clear qa qb
  have hc0 : 0 < cmpQ A B := HC.out.2 (by trivial)
  have HC0 : Hid (0 < cmpQ A B) := hc0
  have HNC : Hid (cmpQ B A ≤ 0) := by show _ ≤ _; rw [cmpQ_anti]; omega
  clear hc0 HC
  have hq := wCmp hX hY
  obtain ⟨c, hc⟩ : ∃ c, c = cmpQ A B := ⟨_, rfl⟩
  have hcc : 0 < c := by rw [hc]; have := HC0.out; omega
  rw [← hc] at hq
  clear hc
  refine (hq).mono ?_
  rintro e w7 ⟨rfl, b⟩
  clear hq
  replace hX := hX.below b
  replace hY := hY.below b
  replace qx := qx.below b
  replace qy := qy.below b
  replace hb := bstep hb b
  replace hsz := Nat.lt_of_lt_of_le hsz b.size
  clear b
  obtain ⟨cx0, cx1, cx2⟩ := qx.cells
  have lx : v4 < w7.heap.size := (Array.getElem?_eq_some_iff.1 (show w7.heap[v4]? = _ from qx)).1
  have ly : v6 < w7.heap.size := (Array.getElem?_eq_some_iff.1 (show w7.heap[v6]? = _ from qy)).1
  have hxy : v4 ≠ v6 := hne
  have hq0 : QCell (w7.alloc (.cells #[.bool false, .slice none 0 0, .slice none 0 0] 27)) w7.heap.size false (.slice none 0 0) (.slice none 0 0) := qcell_new _ rfl
  obtain ⟨z0, z1, z2⟩ := hq0.cells
  have t0 := hq0.thaw 0
  have t1 := hq0.thaw 1
  have t2 := hq0.thaw 2
  clear hq0
  obtain ⟨W8, hW8⟩ : ∃ W, W = w7.alloc (.cells #[.bool na, .slice ao al2 ac, .slice aO aL2 aC] 27) := ⟨_, rfl⟩
  have qc : QCell W8 w7.heap.size na (.slice ao al2 ac) (.slice aO aL2 aC) := by rw [hW8]; exact qcell_new _ rfl
  have b : Below w7.heap.size w7 W8 := by rw [hW8]; exact belowA _ _
  replace hX := hX.below b
  replace hY := hY.below b
  replace qx := qx.below b
  replace qy := qy.below b
  replace hb := bstep hb b
  replace hsz := Nat.lt_of_lt_of_le hsz b.size
  clear b
  have rqx0 : (w7.alloc (.cells #[.bool na, .slice ao al2 ac, .slice aO aL2 aC] 27)).cell? ⟨v4, 0, none⟩ = some (.bool na) := by rw [← hW8]; exact qx.cells.1
  have rqx1 : (w7.alloc (.cells #[.bool na, .slice ao al2 ac, .slice aO aL2 aC] 27)).cell? ⟨v4, 1, none⟩ = some (.slice ao al2 ac) := by rw [← hW8]; exact qx.cells.2.1
  have rqx2 : (w7.alloc (.cells #[.bool na, .slice ao al2 ac, .slice aO aL2 aC] 27)).cell? ⟨v4, 2, none⟩ = some (.slice aO aL2 aC) := by rw [← hW8]; exact qx.cells.2.2
  have rqy0 : (w7.alloc (.cells #[.bool na, .slice ao al2 ac, .slice aO aL2 aC] 27)).cell? ⟨v6, 0, none⟩ = some (.bool nb) := by rw [← hW8]; exact qy.cells.1
  have rqy1 : (w7.alloc (.cells #[.bool na, .slice ao al2 ac, .slice aO aL2 aC] 27)).cell? ⟨v6, 1, none⟩ = some (.slice bo bl2 bc) := by rw [← hW8]; exact qy.cells.2.1
  have rqy2 : (w7.alloc (.cells #[.bool na, .slice ao al2 ac, .slice aO aL2 aC] 27)).cell? ⟨v6, 2, none⟩ = some (.slice bO bL2 bC) := by rw [← hW8]; exact qy.cells.2.2
  have rqc0 : (w7.alloc (.cells #[.bool na, .slice ao al2 ac, .slice aO aL2 aC] 27)).cell? ⟨w7.heap.size, 0, none⟩ = some (.bool na) := by rw [← hW8]; exact qc.cells.1
  have rqc1 : (w7.alloc (.cells #[.bool na, .slice ao al2 ac, .slice aO aL2 aC] 27)).cell? ⟨w7.heap.size, 1, none⟩ = some (.slice ao al2 ac) := by rw [← hW8]; exact qc.cells.2.1
  have rqc2 : (w7.alloc (.cells #[.bool na, .slice ao al2 ac, .slice aO aL2 aC] 27)).cell? ⟨w7.heap.size, 2, none⟩ = some (.slice aO aL2 aC) := by rw [← hW8]; exact qc.cells.2.2
  have sqx0 : (w7.alloc (.cells #[.bool na, .slice ao al2 ac, .slice aO aL2 aC] 27)).frozen? ⟨v4, 0, none⟩ = false := by rw [← hW8]; exact qx.thaw 0
  have sqx1 : (w7.alloc (.cells #[.bool na, .slice ao al2 ac, .slice aO aL2 aC] 27)).frozen? ⟨v4, 1, none⟩ = false := by rw [← hW8]; exact qx.thaw 1
  have sqx2 : (w7.alloc (.cells #[.bool na, .slice ao al2 ac, .slice aO aL2 aC] 27)).frozen? ⟨v4, 2, none⟩ = false := by rw [← hW8]; exact qx.thaw 2
  have sqy0 : (w7.alloc (.cells #[.bool na, .slice ao al2 ac, .slice aO aL2 aC] 27)).frozen? ⟨v6, 0, none⟩ = false := by rw [← hW8]; exact qy.thaw 0
  have sqy1 : (w7.alloc (.cells #[.bool na, .slice ao al2 ac, .slice aO aL2 aC] 27)).frozen? ⟨v6, 1, none⟩ = false := by rw [← hW8]; exact qy.thaw 1
  have sqy2 : (w7.alloc (.cells #[.bool na, .slice ao al2 ac, .slice aO aL2 aC] 27)).frozen? ⟨v6, 2, none⟩ = false := by rw [← hW8]; exact qy.thaw 2
  have n1 : ¬ w7.heap.size = v4 := by omega
  have n2 : ¬ v6 = v4 := fun e => hxy e.symm
  have n3 : ¬ v4 = v6 := hxy
  have n4 : ¬ w7.heap.size = v6 := by omega
  obtain ⟨X9, hX9⟩ : ∃ X, X = ((((((W8.setCell ⟨v4, 0, none⟩ (.bool nb)).setCell ⟨v4, 1, none⟩ (.slice bo bl2 bc)).setCell ⟨v4, 2, none⟩ (.slice bO bL2 bC)).setCell ⟨v6, 0, none⟩ (.bool na)).setCell ⟨v6, 1, none⟩ (.slice ao al2 ac)).setCell ⟨v6, 2, none⟩ (.slice aO aL2 aC)) := ⟨_, rfl⟩
  have qy1 : QCell (((W8.setCell ⟨v4, 0, none⟩ (.bool nb)).setCell ⟨v4, 1, none⟩ (.slice bo bl2 bc)).setCell ⟨v4, 2, none⟩ (.slice bO bL2 bC)) v6 nb (.slice bo bl2 bc) (.slice bO bL2 bC) := ((qy.other n2 _ _).other n2 _ _).other n2 _ _
  have jx : QCell X9 v4 nb (.slice bo bl2 bc) (.slice bO bL2 bC) := by rw [hX9]; exact (((qx.write _ _ _).other n3 _ _).other n3 _ _).other n3 _ _
  have jy : QCell X9 v6 na (.slice ao al2 ac) (.slice aO aL2 aC) := by rw [hX9]; exact qy1.write _ _ _
  have kX : RW X9 (.agg #[.bool na, .slice ao al2 ac, .slice aO aL2 aC]) A := by rw [hX9]; exact (hX.box qx.noint (three_other W8 v4 _ _ _)).box qy1.noint (three_other _ v6 _ _ _)
  have kY : RW X9 (.agg #[.bool nb, .slice bo bl2 bc, .slice bO bL2 bC]) B := by rw [hX9]; exact (hY.box qx.noint (three_other W8 v4 _ _ _)).box qy1.noint (three_other _ v6 _ _ _)
  have hb9 : Below w.heap.size w X9 := by rw [hX9]; exact iend3 (iend3 hb hwx) hwy
  have hsz9 : g + 1 < X9.heap.size := by rw [hX9]; simpa [World.setCell] using hsz
  have HX9 : Hid (X9 = ((((((W8.setCell ⟨v4, 0, none⟩ (.bool nb)).setCell ⟨v4, 1, none⟩ (.slice bo bl2 bc)).setCell ⟨v4, 2, none⟩ (.slice bO bL2 bC)).setCell ⟨v6, 0, none⟩ (.bool na)).setCell ⟨v6, 1, none⟩ (.slice ao al2 ac)).setCell ⟨v6, 2, none⟩ (.slice aO aL2 aC))) := hX9
  have HW8 : Hid (W8 = w7.alloc (.cells #[.bool na, .slice ao al2 ac, .slice aO aL2 aC] 27)) := hW8
  clear hX9 hW8 qy1 hb hsz qx qy qc hX hY lx ly hxy
  go_wp2_with fail
  rw [← HW8.out, ← HX9.out]
  clear HW8 HX9 n1 n2 n3 n4 cx0 cx1 cx2 z0 z1 z2 t0 t1 t2 rqx0 rqx1 rqx2 rqy0 rqy1 rqy2 rqc0 rqc1 rqc2 sqx0 sqx1 sqx2 sqy0 sqy1 sqy2
  have hb := hb9
  have hsz := hsz9
  have qx := jx
  have qy := jy
  have hX := kX
  have hY := kY
  clear hb9 hsz9 jx jy kX kY
  have HAB : Hid (B.num * A.den ≤ A.num * B.den) := cmpQ_le (by have := HNC.out; omega)
  have HSS : Hid (RSz (spQ B A) 3) := RSz.sp HAB.out HS2.out
  obtain ⟨S, hS⟩ : ∃ S, S = spQ B A := ⟨_, rfl⟩
  have HSP : Hid (S = spQ B A) := hS
  have hq := wSimplest hY hX (by have := HNC.out; omega)
  rw [← hS] at hq HSS
  clear hS
  refine (hq).mono ?_
  rintro e w8 ⟨v, rfl, hv, b⟩
  clear hq
  obtain ⟨m, d, rfl, hm, hd, hap⟩ := id hv
  obtain ⟨so, sl, sc, rfl⟩ := hm.sl
  obtain ⟨sO, sL, sC, rfl⟩ := hd.sl
  have hdn := hd.num
  clear hm hd hap
  generalize decide (S.num < 0) = bs at *
  replace hX := hX.below b
  replace hY := hY.below b
  replace qx := qx.below b
  replace qy := qy.below b
  replace hb := bstep hb b
  replace hsz := Nat.lt_of_lt_of_le hsz b.size
  clear b
  have hq0 : QCell (w8.alloc (.cells #[.bool false, .slice none 0 0, .slice none 0 0] 27)) w8.heap.size false (.slice none 0 0) (.slice none 0 0) := qcell_new _ rfl
  obtain ⟨W9, hW9⟩ : ∃ W, W = w8.alloc (.cells #[.bool bs, .slice so sl sc, .slice sO sL sC] 27) := ⟨_, rfl⟩
  have qs : QCell W9 (w8.heap.size) bs (.slice so sl sc) (.slice sO sL sC) := by rw [hW9]; exact qcell_new _ rfl
  have b : Below w8.heap.size w8 W9 := by rw [hW9]; exact belowA _ _
  obtain ⟨z0, z1, z2⟩ := hq0.cells
  have t0 := hq0.thaw 0
  have t1 := hq0.thaw 1
  have t2 := hq0.thaw 2
  clear hq0
  replace hX := hX.below b
  replace hY := hY.below b
  replace hv := hv.below b
  replace hdn := hdn.below (Nat.le_refl _) b
  replace qx := qx.below b
  replace qy := qy.below b
  replace hb := bstep hb b
  replace hsz := Nat.lt_of_lt_of_le hsz b.size
  clear b
  have rqx0 : (w8.alloc (.cells #[.bool bs, .slice so sl sc, .slice sO sL sC] 27)).cell? ⟨v4, 0, none⟩ = some (.bool nb) := by rw [← hW9]; exact qx.cells.1
  have rqx1 : (w8.alloc (.cells #[.bool bs, .slice so sl sc, .slice sO sL sC] 27)).cell? ⟨v4, 1, none⟩ = some (.slice bo bl2 bc) := by rw [← hW9]; exact qx.cells.2.1
  have rqx2 : (w8.alloc (.cells #[.bool bs, .slice so sl sc, .slice sO sL sC] 27)).cell? ⟨v4, 2, none⟩ = some (.slice bO bL2 bC) := by rw [← hW9]; exact qx.cells.2.2
  have rqy0 : (w8.alloc (.cells #[.bool bs, .slice so sl sc, .slice sO sL sC] 27)).cell? ⟨v6, 0, none⟩ = some (.bool na) := by rw [← hW9]; exact qy.cells.1
  have rqy1 : (w8.alloc (.cells #[.bool bs, .slice so sl sc, .slice sO sL sC] 27)).cell? ⟨v6, 1, none⟩ = some (.slice ao al2 ac) := by rw [← hW9]; exact qy.cells.2.1
  have rqy2 : (w8.alloc (.cells #[.bool bs, .slice so sl sc, .slice sO sL sC] 27)).cell? ⟨v6, 2, none⟩ = some (.slice aO aL2 aC) := by rw [← hW9]; exact qy.cells.2.2
  have rqs0 : (w8.alloc (.cells #[.bool bs, .slice so sl sc, .slice sO sL sC] 27)).cell? ⟨w8.heap.size, 0, none⟩ = some (.bool bs) := by rw [← hW9]; exact qs.cells.1
  have rqs1 : (w8.alloc (.cells #[.bool bs, .slice so sl sc, .slice sO sL sC] 27)).cell? ⟨w8.heap.size, 1, none⟩ = some (.slice so sl sc) := by rw [← hW9]; exact qs.cells.2.1
  have rqs2 : (w8.alloc (.cells #[.bool bs, .slice so sl sc, .slice sO sL sC] 27)).cell? ⟨w8.heap.size, 2, none⟩ = some (.slice sO sL sC) := by rw [← hW9]; exact qs.cells.2.2
  obtain ⟨v9, hv9⟩ : ∃ v, v = w8.heap.size := ⟨_, rfl⟩
  rw [← hv9] at qs
  have HW9 : Hid (W9 = w8.alloc (.cells #[.bool bs, .slice so sl sc, .slice sO sL sC] 27)) := hW9
  have Hv9 : Hid (v9 = w8.heap.size) := hv9
  clear hW9 hv9
  go_wp2_with fail
  rw [← HW9.out, ← Hv9.out]
  clear HW9 Hv9 z0 t0 z1 t1 z2 t2 rqx0 rqx1 rqx2 rqy0 rqy1 rqy2 rqs0 rqs1 rqs2 
  refine (l_lowest hv.std HSS.out (by decide)).mono ?_
  rintro e w10 ⟨rfl, b⟩
  replace hX := hX.below b
  replace hY := hY.below b
  replace hv := hv.below b
  replace hdn := hdn.below (Nat.le_refl _) b
  replace qx := qx.below b
  replace qy := qy.below b
  replace qs := qs.below b
  replace hb := bstep hb b
  replace hsz := Nat.lt_of_lt_of_le hsz b.size
  clear b
  obtain ⟨cqx0, cqx1, cqx2⟩ := qx.cells
  obtain ⟨cqy0, cqy1, cqy2⟩ := qy.cells
  obtain ⟨cqs0, cqs1, cqs2⟩ := qs.cells
  go_wp2_with fail
  clear cqx0 cqx1 cqx2 cqy0 cqy1 cqy2 cqs0 cqs1 cqs2
  have hW := hv.rw (HSS.out.mono (by decide))
  have hl := (sp_lies HAB.out)
  rw [← HSP.out] at hl
  have hc1 : ¬ cmpQ S B < 0 := by rw [cmpQ_nn]; omega
  have hc2 : ¬ 0 < cmpQ S A := by rw [cmpQ_pp]; omega
  have HC1 : Hid (¬ cmpQ S B < 0 ∧ ¬ 0 < cmpQ S A) := ⟨hc1, hc2⟩
  clear hl hc1 hc2
  have hq := wCmp hW hY
  obtain ⟨c, hc⟩ : ∃ c, c = cmpQ S B := ⟨_, rfl⟩
  have hcc : ¬ c < 0 := by rw [hc]; have := HC1.out.1; omega
  rw [← hc] at hq
  clear hc
  refine (hq).mono ?_
  rintro e w11 ⟨rfl, b⟩
  clear hq
  replace hX := hX.below b
  replace hY := hY.below b
  replace hv := hv.below b
  replace hdn := hdn.below (Nat.le_refl _) b
  replace hW := hW.below b
  replace qx := qx.below b
  replace qy := qy.below b
  replace qs := qs.below b
  replace hb := bstep hb b
  replace hsz := Nat.lt_of_lt_of_le hsz b.size
  clear b
  obtain ⟨cqx0, cqx1, cqx2⟩ := qx.cells
  obtain ⟨cqy0, cqy1, cqy2⟩ := qy.cells
  obtain ⟨cqs0, cqs1, cqs2⟩ := qs.cells
  go_wp2_with fail
  clear cqx0 cqx1 cqx2 cqy0 cqy1 cqy2 cqs0 cqs1 cqs2
  skip
  have hq := wCmp hW hX
  obtain ⟨c, hc⟩ : ∃ c, c = cmpQ S A := ⟨_, rfl⟩
  have hcc : ¬ 0 < c := by rw [hc]; have := HC1.out.2; omega
  rw [← hc] at hq
  clear hc
  refine (hq).mono ?_
  rintro e w12 ⟨rfl, b⟩
  clear hq
  replace hX := hX.below b
  replace hY := hY.below b
  replace hv := hv.below b
  replace hdn := hdn.below (Nat.le_refl _) b
  replace hW := hW.below b
  replace qx := qx.below b
  replace qy := qy.below b
  replace qs := qs.below b
  replace hb := bstep hb b
  replace hsz := Nat.lt_of_lt_of_le hsz b.size
  clear b
  obtain ⟨cqx0, cqx1, cqx2⟩ := qx.cells
  obtain ⟨cqy0, cqy1, cqy2⟩ := qy.cells
  obtain ⟨cqs0, cqs1, cqs2⟩ := qs.cells
  go_wp2_with fail
  clear cqx0 cqx1 cqx2 cqy0 cqy1 cqy2 cqs0 cqs1 cqs2
  skip
  go_loopw [11] (fun t wr => ∃ d : Nat, 1 ≤ d ∧ d ≤ 201 ∧ t = .int .i64 d ∧ Below w12.heap.size w12 wr) (fun t _ => 201 - (intOf t).toNat)
  case atStart => exact ⟨1, by decide, by decide, rfl, Below.refl _ _⟩
  case round =>
    obtain ⟨d, h1, h2, rfl, b⟩ := hrel
    have hb0 := b
    replace hX := hX.below b
    replace hY := hY.below b
    replace hv := hv.below b
    replace hdn := hdn.below (Nat.le_refl _) b
    replace hW := hW.below b
    replace qx := qx.below b
    replace qy := qy.below b
    replace qs := qs.below b
    replace hb := bstep hb b
    replace hsz := Nat.lt_of_lt_of_le hsz b.size
    clear b
    by_cases hd2 : d ≤ 200
    · have hdi : (d : Int) ≤ 200 := by omega
      obtain ⟨cqx0, cqx1, cqx2⟩ := qx.cells
      obtain ⟨cqy0, cqy1, cqy2⟩ := qy.cells
      obtain ⟨cqs0, cqs1, cqs2⟩ := qs.cells
      go_wp2_with fail
      clear cqx0 cqx1 cqx2 cqy0 cqy1 cqy2 cqs0 cqs1 cqs2
      have hq := c_fof (n := (d : Int)) (d := 1) (w := wr) (by omega) (by omega) (by decide) (by decide) (by decide)
      obtain ⟨D, hD⟩ : ∃ D, D = Rat.divInt (d : Int) 1 := ⟨_, rfl⟩
      have HD : Hid (D = Rat.divInt (d : Int) 1) := hD
      have HDS : Hid (RSz D 1) := by show RSz _ _; rw [hD]; exact RSz.of (by decide) ⟨by rw [Int.natAbs_natCast]; omega⟩ Sz.one
      rw [← hD] at hq
      clear hD
      refine (hq).mono ?_
      rintro e w213 ⟨v, rfl, hvd, b⟩
      clear hq
      obtain ⟨m, d9, rfl, hm, hd9, hap⟩ := id hvd
      obtain ⟨eo, el, ec, rfl⟩ := hm.sl
      obtain ⟨eO, eL, eC, rfl⟩ := hd9.sl
      clear hm hd9 hap
      generalize decide (D.num < 0) = bd at *
      replace hX := hX.below b
      replace hY := hY.below b
      replace hv := hv.below b
      replace hdn := hdn.below (Nat.le_refl _) b
      replace hW := hW.below b
      replace hb0 := bstep hb0 b
      replace qx := qx.below b
      replace qy := qy.below b
      replace qs := qs.below b
      replace hb := bstep hb b
      replace hsz := Nat.lt_of_lt_of_le hsz b.size
      clear b
      have hq0 : QCell (w213.alloc (.cells #[.bool false, .slice none 0 0, .slice none 0 0] 27)) w213.heap.size false (.slice none 0 0) (.slice none 0 0) := qcell_new _ rfl
      obtain ⟨W214, hW214⟩ : ∃ W, W = w213.alloc (.cells #[.bool bd, .slice eo el ec, .slice eO eL eC] 27) := ⟨_, rfl⟩
      have qd : QCell W214 (w213.heap.size) bd (.slice eo el ec) (.slice eO eL eC) := by rw [hW214]; exact qcell_new _ rfl
      have b : Below w213.heap.size w213 W214 := by rw [hW214]; exact belowA _ _
      obtain ⟨z0, z1, z2⟩ := hq0.cells
      have t0 := hq0.thaw 0
      have t1 := hq0.thaw 1
      have t2 := hq0.thaw 2
      clear hq0
      replace hX := hX.below b
      replace hY := hY.below b
      replace hv := hv.below b
      replace hdn := hdn.below (Nat.le_refl _) b
      replace hW := hW.below b
      replace hb0 := bstep hb0 b
      replace hvd := hvd.below b
      replace qx := qx.below b
      replace qy := qy.below b
      replace qs := qs.below b
      replace hb := bstep hb b
      replace hsz := Nat.lt_of_lt_of_le hsz b.size
      clear b
      have rqx0 : (w213.alloc (.cells #[.bool bd, .slice eo el ec, .slice eO eL eC] 27)).cell? ⟨v4, 0, none⟩ = some (.bool nb) := by rw [← hW214]; exact qx.cells.1
      have rqx1 : (w213.alloc (.cells #[.bool bd, .slice eo el ec, .slice eO eL eC] 27)).cell? ⟨v4, 1, none⟩ = some (.slice bo bl2 bc) := by rw [← hW214]; exact qx.cells.2.1
      have rqx2 : (w213.alloc (.cells #[.bool bd, .slice eo el ec, .slice eO eL eC] 27)).cell? ⟨v4, 2, none⟩ = some (.slice bO bL2 bC) := by rw [← hW214]; exact qx.cells.2.2
      have rqy0 : (w213.alloc (.cells #[.bool bd, .slice eo el ec, .slice eO eL eC] 27)).cell? ⟨v6, 0, none⟩ = some (.bool na) := by rw [← hW214]; exact qy.cells.1
      have rqy1 : (w213.alloc (.cells #[.bool bd, .slice eo el ec, .slice eO eL eC] 27)).cell? ⟨v6, 1, none⟩ = some (.slice ao al2 ac) := by rw [← hW214]; exact qy.cells.2.1
      have rqy2 : (w213.alloc (.cells #[.bool bd, .slice eo el ec, .slice eO eL eC] 27)).cell? ⟨v6, 2, none⟩ = some (.slice aO aL2 aC) := by rw [← hW214]; exact qy.cells.2.2
      have rqs0 : (w213.alloc (.cells #[.bool bd, .slice eo el ec, .slice eO eL eC] 27)).cell? ⟨v9, 0, none⟩ = some (.bool bs) := by rw [← hW214]; exact qs.cells.1
      have rqs1 : (w213.alloc (.cells #[.bool bd, .slice eo el ec, .slice eO eL eC] 27)).cell? ⟨v9, 1, none⟩ = some (.slice so sl sc) := by rw [← hW214]; exact qs.cells.2.1
      have rqs2 : (w213.alloc (.cells #[.bool bd, .slice eo el ec, .slice eO eL eC] 27)).cell? ⟨v9, 2, none⟩ = some (.slice sO sL sC) := by rw [← hW214]; exact qs.cells.2.2
      have rqd0 : (w213.alloc (.cells #[.bool bd, .slice eo el ec, .slice eO eL eC] 27)).cell? ⟨w213.heap.size, 0, none⟩ = some (.bool bd) := by rw [← hW214]; exact qd.cells.1
      have rqd1 : (w213.alloc (.cells #[.bool bd, .slice eo el ec, .slice eO eL eC] 27)).cell? ⟨w213.heap.size, 1, none⟩ = some (.slice eo el ec) := by rw [← hW214]; exact qd.cells.2.1
      have rqd2 : (w213.alloc (.cells #[.bool bd, .slice eo el ec, .slice eO eL eC] 27)).cell? ⟨w213.heap.size, 2, none⟩ = some (.slice eO eL eC) := by rw [← hW214]; exact qd.cells.2.2
      obtain ⟨v214, hv214⟩ : ∃ v, v = w213.heap.size := ⟨_, rfl⟩
      rw [← hv214] at qd
      have HW214 : Hid (W214 = w213.alloc (.cells #[.bool bd, .slice eo el ec, .slice eO eL eC] 27)) := hW214
      have Hv214 : Hid (v214 = w213.heap.size) := hv214
      clear hW214 hv214
      go_wp2_with fail
      rw [← HW214.out, ← Hv214.out]
      clear HW214 Hv214 z0 t0 z1 t1 z2 t2 rqx0 rqx1 rqx2 rqy0 rqy1 rqy2 rqs0 rqs1 rqs2 rqd0 rqd1 rqd2 
      have hwr : IntKind.u64.wrap (d : Int) = (d : Int) := wrap_small (by omega)
      by_cases hge : S.den ≤ d
      · have KEEP : ∀ u, Below W214.heap.size W214 u → AllL u [(4, fun w' => w'.cell? ⟨v9, 2, none⟩ = some (.slice sO sL sC))] := fun u B => ⟨(qs.below B).cells.2.2, trivial⟩
        refine region_late [(4, fun w' => w'.cell? ⟨v9, 2, none⟩ = some (.slice sO sL sC))] (by kernel_rfl) ?_
        have BZ : Below W214.heap.size W214 W214.drew := below_drew' _
        obtain ⟨wz, hwz⟩ : ∃ u, u = W214.drew := ⟨_, rfl⟩
        rw [← hwz] at BZ ⊢
        clear hwz
        have hHeld := KEEP _ BZ
        have khdn := hdn.below (Nat.le_refl _) BZ
        refine late_fr 0 (v := .int .i64 (d : Int)) rfl (Or.inl ⟨by rfl, ?_⟩) hHeld ?_
        · (intro u _; go_simp)
        (try simp only [Act.put, putA, putB, putC])
        refine late_fr 1 (v := .int .u64 (d : Int)) rfl (Or.inl ⟨by rfl, ?_⟩) hHeld ?_
        · (intro u _; go_simp)
        (try simp only [Act.put, putA, putB, putC])
        refine late_fr 3 (v := .pointer (some ⟨v9, 2, none⟩)) rfl (Or.inl ⟨by rfl, ?_⟩) hHeld ?_
        · (intro u _; go_simp)
        (try simp only [Act.put, putA, putB, putC])
        refine late_tk 4 (v := .slice sO sL sC) rfl (List.Mem.head _) (Or.inl ⟨by rfl, ?_⟩) hHeld ?_
        · (intro u hu; (try dsimp only at hu); go_split_ands; go_simp)
        (try simp only [Act.put, putA, putB, putC])
        refine late_st 2 rfl (fun K hK => ?_)
        go_simp
        refine (of_any d _ (by omega)).mono ?_
        rintro e w315 ⟨v, rfl, ho, b315⟩
        obtain ⟨xo, xl, xc, rfl⟩ := ho.sl
        have hn := ho.num
        clear ho
        replace khdn := khdn.below (Nat.le_refl _) b315
        have B315 : Below W214.heap.size W214 w315 := bstep BZ b315
        clear BZ b315
        replace hHeld := KEEP _ B315
        go_wp2_with fail
        refine hK.out _ _ (AllL.kept hHeld) ?_
        clear hK K
        (try simp only [Act.put, putA, putB, putC])
        have hq := ncmp hn (khdn.below (Nat.le_refl _) (Below.refl _ _))
        rw [val_lim, val_lim] at hq
        obtain ⟨c, hc⟩ : ∃ c, c = cmpN d S.den := ⟨_, rfl⟩
        have hcc : 0 ≤ c := by rw [hc]; unfold cmpN; split <;> (try split) <;> omega
        rw [← hc] at hq
        clear hc
        refine late_st 5 rfl (fun K hK => ?_)
        go_simp
        refine (hq).mono ?_
        rintro e w316 ⟨rfl, b316⟩
        clear hq hn
        have B316 : Below W214.heap.size W214 w316 := bstep B315 b316
        clear B315 b316
        replace hHeld := KEEP _ B316
        go_wp2_with fail
        refine hK.out _ _ (AllL.kept hHeld) ?_
        clear hK K
        (try simp only [Act.put, putA, putB, putC])
        refine late_st 6 rfl (fun K hK => ?_)
        go_simp
        refine hK.out _ _ (AllL.kept hHeld) ?_
        clear hK K
        (try simp only [Act.put, putA, putB, putC])
        refine late_done (by kernel_rfl) ?_ _
        clear KEEP hHeld khdn
        have b := B316
        clear B316
        replace hX := hX.below b
        replace hY := hY.below b
        replace hv := hv.below b
        replace hdn := hdn.below (Nat.le_refl _) b
        replace hW := hW.below b
        replace hb0 := bstep hb0 b
        replace hvd := hvd.below b
        replace qx := qx.below b
        replace qy := qy.below b
        replace qs := qs.below b
        replace qd := qd.below b
        replace hb := bstep hb b
        replace hsz := Nat.lt_of_lt_of_le hsz b.size
        clear b
        obtain ⟨cqx0, cqx1, cqx2⟩ := qx.cells
        obtain ⟨cqy0, cqy1, cqy2⟩ := qy.cells
        obtain ⟨cqs0, cqs1, cqs2⟩ := qs.cells
        obtain ⟨cqd0, cqd1, cqd2⟩ := qd.cells
        go_wp2_with fail
        clear cqx0 cqx1 cqx2 cqy0 cqy1 cqy2 cqs0 cqs1 cqs2 cqd0 cqd1 cqd2
        have hq := wSign hW
        obtain ⟨c, hc⟩ : ∃ c, c = sgnQ S := ⟨_, rfl⟩
        have HCS : Hid (c = sgnQ S) := hc
        rw [← hc] at hq
        clear hc
        refine (hq).mono ?_
        rintro e w317 ⟨rfl, b⟩
        clear hq
        replace hX := hX.below b
        replace hY := hY.below b
        replace hv := hv.below b
        replace hdn := hdn.below (Nat.le_refl _) b
        replace hW := hW.below b
        replace hb0 := bstep hb0 b
        replace hvd := hvd.below b
        replace qx := qx.below b
        replace qy := qy.below b
        replace qs := qs.below b
        replace qd := qd.below b
        replace hb := bstep hb b
        replace hsz := Nat.lt_of_lt_of_le hsz b.size
        clear b
        by_cases hz : c = 0
        · have HE : Hid (Below w.heap.size w w317) := hb
          clear hb hsz qx qy qs qd hX hY hv hdn hW hb0 hvd
          go_wp2
          go_ret
          exact ⟨rfl, HE.out⟩
        · obtain ⟨cqx0, cqx1, cqx2⟩ := qx.cells
          obtain ⟨cqy0, cqy1, cqy2⟩ := qy.cells
          obtain ⟨cqs0, cqs1, cqs2⟩ := qs.cells
          obtain ⟨cqd0, cqd1, cqd2⟩ := qd.cells
          go_wp2_with fail
          clear cqx0 cqx1 cqx2 cqy0 cqy1 cqy2 cqs0 cqs1 cqs2 cqd0 cqd1 cqd2
          have HCB : Hid ((c = 1 ∧ 0 < S.num) ∨ (c = -1 ∧ S.num < 0)) := by
            have h := HCS.out
            unfold sgnQ cmpZ at h
            split at h
            · exact Or.inr ⟨h, by assumption⟩
            · split at h
              · exact absurd h hz
              · exact Or.inl ⟨h, by omega⟩
          have HBD : Hid (-9223372036854775808 ≤ c ∧ c ≤ 9223372036854775807 ∧ Sz c 1) := by
            rcases HCB.out with h | h
            · rw [h.1]; exact ⟨by decide, by decide, Sz.one⟩
            · rw [h.1]; exact ⟨by decide, by decide, Sz.one.neg⟩
          obtain ⟨T, hT⟩ : ∃ T, T = Rat.divInt c (S.den : Int) := ⟨_, rfl⟩
          have HT : Hid (Rat.divInt c (S.den : Int) = T) := hT.symm
          have hdz : (S.den : Int) ≠ 0 := by have := S.den_pos; omega
          have HTS : Hid (RSz T 3) := by show RSz _ _; rw [hT]; exact RSz.of hdz (HBD.out.2.2.mono (by decide)) HSS.out.den
          have HDL : Hid ((lim S.den).length ≤ 1000000) := by have := HSS.out.den.len; rw [Int.natAbs_natCast] at this; exact Nat.le_trans this (by decide)
          have HDZ : Hid ((S.den : Int) ≠ 0) := hdz
          clear hT hdz
          go_cut [16, 17] (fun t u wx => ∃ v n o l c O L C, t = .pointer (some ⟨v, 0, none⟩) ∧ u = .int .i64 0 ∧ QCell wx v n (.slice o l c) (.slice O L C) ∧ RW wx (.agg #[.bool n, .slice o l c, .slice O L C]) T ∧ Below w317.heap.size w317 wx)
          case first =>
            have KEEP : ∀ u, Below w317.heap.size w317 u → L2.AllL u [(0, fun w' => w'.cell? ⟨v9, 0, none⟩ = some (.bool bs) ∧ w'.cell? ⟨v9, 1, none⟩ = some (.slice so sl sc) ∧ w'.cell? ⟨v9, 2, none⟩ = some (.slice sO sL sC)), (4, fun w' => w'.cell? ⟨v9, 2, none⟩ = some (.slice sO sL sC))] := fun u B => ⟨(qs.below B).cells, (qs.below B).cells.2.2, trivial⟩
            refine L2.region_late [(0, fun w' => w'.cell? ⟨v9, 0, none⟩ = some (.bool bs) ∧ w'.cell? ⟨v9, 1, none⟩ = some (.slice so sl sc) ∧ w'.cell? ⟨v9, 2, none⟩ = some (.slice sO sL sC)), (4, fun w' => w'.cell? ⟨v9, 2, none⟩ = some (.slice sO sL sC))] (by kernel_rfl) ?_
            have B0 : Below w317.heap.size w317 w317.drew := below_drew' _
            obtain ⟨w0, hw0⟩ : ∃ u, u = w317.drew := ⟨_, rfl⟩
            rw [← hw0] at B0 ⊢
            clear hw0
            have hHeld := KEEP _ B0
            have kW := hW.below B0
            have kd := hdn.below (Nat.le_refl _) B0
            refine L2.late_take 0 (v := .agg #[.bool bs, .slice so sl sc, .slice sO sL sC]) rfl (by kernel_rfl) (List.Mem.head _) (by kernel_rfl) (by kernel_rfl) (by kernel_rfl) (by kernel_rfl) (fun _ _ _ h => h) (Or.inl ⟨by rfl, ?_⟩) hHeld ?_
            · (intro u hu; (try dsimp only at hu); go_split_ands; go_simp)
            (try simp only [Act.put, putA, putB, putC])
            refine L2.late_free 3 (v := .pointer (some ⟨v9, 2, none⟩)) rfl (by kernel_rfl) (by kernel_rfl) (by kernel_rfl) (by kernel_rfl) (by kernel_rfl) (by kernel_rfl) (fun _ _ _ h => h) (Or.inl ⟨by rfl, ?_⟩) hHeld ?_
            · (intro u _; go_simp)
            (try simp only [Act.put, putA, putB, putC])
            refine L2.late_take 4 (v := .slice sO sL sC) rfl (by kernel_rfl) (List.Mem.tail _ (List.Mem.head _)) (by kernel_rfl) (by kernel_rfl) (by kernel_rfl) (by kernel_rfl) (fun _ _ _ h => h) (Or.inl ⟨by rfl, ?_⟩) hHeld ?_
            · (intro u hu; (try dsimp only at hu); go_split_ands; go_simp)
            (try simp only [Act.put, putA, putB, putC])
            refine L2.late_free 5 (v := .agg #[.bool false, .slice sO sL sC]) rfl (by kernel_rfl) (by kernel_rfl) (by kernel_rfl) (by kernel_rfl) (by kernel_rfl) (by kernel_rfl) (fun _ _ _ h => h) (Or.inl ⟨by rfl, ?_⟩) hHeld ?_
            · (intro u _; go_simp)
            (try simp only [Act.put, putA, putB, putC])
            refine L2.late_two 1 10 (by kernel_rfl) rfl rfl (fun K hK => ?t435) (fun K hK => ?t436)
            case' t435 =>
             go_simp
             have hq := wSign kW
             rw [← HCS.out] at hq
             refine hq.mono ?_
             rintro e w418 ⟨rfl, b418⟩
             clear hq kW
             replace kd := kd.below (Nat.le_refl _) b418
             have B418 : Below w317.heap.size w317 w418 := bstep B0 b418
             clear b418
             replace hHeld := KEEP _ B418
             go_wp2_with fail
             refine hK.out _ _ (L2.AllL.kept hHeld) ?_
             clear hK K
             (try simp only [Act.put, putA, putB, putC])
             refine L2.late_two 2 10 (by kernel_rfl) rfl rfl (fun K hK => ?t429) (fun K hK => ?t430)
             case' t429 =>
              go_simp
              refine (c_of (n := c) HBD.out.1 HBD.out.2.1).mono ?_
              rintro e w419 ⟨v, rfl, hv9, b419⟩
              obtain ⟨gn, go_, gl, gc, rfl, ig⟩ := hv9.see HBD.out.2.2 (by decide)
              clear hv9
              replace kd := kd.below (Nat.le_refl _) b419
              have B419 : Below w317.heap.size w317 w419 := bstep B418 b419
              clear b419
              replace hHeld := KEEP _ B419
              go_wp2_with fail
              refine hK.out _ _ (L2.AllL.kept hHeld) ?_
              clear hK K
              (try simp only [Act.put, putA, putB, putC])
              refine L2.late_two 6 10 (by kernel_rfl) rfl rfl (fun K hK => ?t424) (fun K hK => ?t425)
              case' t424 =>
               go_simp
               have idn : INum _ (.agg #[.bool false, .slice sO sL sC]) (S.den : Int) := ⟨false, sO, sL, sC, lim S.den, rfl, kd, HDL.out, by rw [val_lim]; rfl⟩
               have hq := c_new_yes ig idn HDZ.out
               rw [HT.out] at hq
               refine hq.mono ?_
               rintro e w420 ⟨v, rfl, hv9, b420⟩
               clear hq idn ig kd
               have rT := hv9.rw (HTS.out.mono (by decide))
               obtain ⟨m, d9, rfl, hm, hd9, hap⟩ := hv9
               obtain ⟨to9, tl, tc, rfl⟩ := hm.sl
               obtain ⟨tO, tL, tC, rfl⟩ := hd9.sl
               clear hm hd9 hap
               generalize decide (T.num < 0) = bT at *
               have B420 : Below w317.heap.size w317 w420 := bstep B419 b420
               clear b420
               replace hHeld := KEEP _ B420
               go_wp2_with fail
               refine hK.out _ _ (L2.AllL.kept hHeld) ?_
               clear hK K
               (try simp only [Act.put, putA, putB, putC])
               refine L2.late_free 7 (v := .tuple #[.agg #[.bool bT, .slice to9 tl tc, .slice tO tL tC], .int .i64 0]) rfl (by kernel_rfl) (by kernel_rfl) (by kernel_rfl) (by kernel_rfl) (by kernel_rfl) (by kernel_rfl) (fun _ _ _ h => h) (Or.inl ⟨by rfl, ?_⟩) hHeld ?_
               · (intro u _; go_simp)
               (try simp only [Act.put, putA, putB, putC])
               refine L2.late_free 8 (v := .agg #[.bool bT, .slice to9 tl tc, .slice tO tL tC]) rfl (by kernel_rfl) (by kernel_rfl) (by kernel_rfl) (by kernel_rfl) (by kernel_rfl) (by kernel_rfl) (fun _ _ _ h => h) (Or.inl ⟨by rfl, ?_⟩) hHeld ?_
               · (intro u _; go_simp)
               (try simp only [Act.put, putA, putB, putC])
               refine L2.late_free 9 (v := .int .i64 0) rfl (by kernel_rfl) (by kernel_rfl) (by kernel_rfl) (by kernel_rfl) (by kernel_rfl) (by kernel_rfl) (fun _ _ _ h => h) (Or.inl ⟨by rfl, ?_⟩) hHeld ?_
               · (intro u _; go_simp)
               (try simp only [Act.put, putA, putB, putC])
               refine L2.late_step 10 (by kernel_rfl) rfl (fun K hK => ?_)
               go_simp
               obtain ⟨w421, vx, hw, hv, pvx, b421, B421⟩ := new_pq B420
               rw [hw, hv]
               clear hw hv
               replace rT := rT.below b421
               clear b421
               replace hHeld := KEEP _ B421
               refine hK.out _ _ (L2.AllL.kept hHeld) ?_
               clear hK K
               (try simp only [Act.put, putA, putB, putC])
               have Bz := B421
               obtain ⟨wl, rfl⟩ : ∃ u, u = w421 := ⟨_, rfl⟩
              case' t425 =>
               go_simp
               obtain ⟨w422, vx, hw, hv, pvx, b422, B422⟩ := new_pq B419
               rw [hw, hv]
               clear hw hv
               replace kd := kd.below (Nat.le_refl _) b422
               replace ig := ig.below b422
               clear b422
               replace hHeld := KEEP _ B422
               refine hK.out _ _ (L2.AllL.kept hHeld) ?_
               clear hK K
               (try simp only [Act.put, putA, putB, putC])
               refine L2.late_step 6 (by kernel_rfl) rfl (fun K hK => ?_)
               go_simp
               have idn : INum _ (.agg #[.bool false, .slice sO sL sC]) (S.den : Int) := ⟨false, sO, sL, sC, lim S.den, rfl, kd, HDL.out, by rw [val_lim]; rfl⟩
               have hq := c_new_yes ig idn HDZ.out
               rw [HT.out] at hq
               refine hq.mono ?_
               rintro e w423 ⟨v, rfl, hv9, b423⟩
               clear hq idn ig kd
               have rT := hv9.rw (HTS.out.mono (by decide))
               obtain ⟨m, d9, rfl, hm, hd9, hap⟩ := hv9
               obtain ⟨to9, tl, tc, rfl⟩ := hm.sl
               obtain ⟨tO, tL, tC, rfl⟩ := hd9.sl
               clear hm hd9 hap
               generalize decide (T.num < 0) = bT at *
               replace pvx := pvx.below b423
               have B423 : Below w317.heap.size w317 w423 := bstep B422 b423
               clear b423
               replace hHeld := KEEP _ B423
               go_wp2_with fail
               refine hK.out _ _ (L2.AllL.kept hHeld) ?_
               clear hK K
               (try simp only [Act.put, putA, putB, putC])
               refine L2.late_free 7 (v := .tuple #[.agg #[.bool bT, .slice to9 tl tc, .slice tO tL tC], .int .i64 0]) rfl (by kernel_rfl) (by kernel_rfl) (by kernel_rfl) (by kernel_rfl) (by kernel_rfl) (by kernel_rfl) (fun _ _ _ h => h) (Or.inl ⟨by rfl, ?_⟩) hHeld ?_
               · (intro u _; go_simp)
               (try simp only [Act.put, putA, putB, putC])
               refine L2.late_free 8 (v := .agg #[.bool bT, .slice to9 tl tc, .slice tO tL tC]) rfl (by kernel_rfl) (by kernel_rfl) (by kernel_rfl) (by kernel_rfl) (by kernel_rfl) (by kernel_rfl) (fun _ _ _ h => h) (Or.inl ⟨by rfl, ?_⟩) hHeld ?_
               · (intro u _; go_simp)
               (try simp only [Act.put, putA, putB, putC])
               refine L2.late_free 9 (v := .int .i64 0) rfl (by kernel_rfl) (by kernel_rfl) (by kernel_rfl) (by kernel_rfl) (by kernel_rfl) (by kernel_rfl) (fun _ _ _ h => h) (Or.inl ⟨by rfl, ?_⟩) hHeld ?_
               · (intro u _; go_simp)
               (try simp only [Act.put, putA, putB, putC])
               have Bz := B423
               obtain ⟨wl, rfl⟩ : ∃ u, u = w423 := ⟨_, rfl⟩
             case' t430 =>
              go_simp
              obtain ⟨w426, vx, hw, hv, pvx, b426, B426⟩ := new_pq B418
              rw [hw, hv]
              clear hw hv
              replace kd := kd.below (Nat.le_refl _) b426
              clear b426
              replace hHeld := KEEP _ B426
              refine hK.out _ _ (L2.AllL.kept hHeld) ?_
              clear hK K
              (try simp only [Act.put, putA, putB, putC])
              refine L2.late_step 2 (by kernel_rfl) rfl (fun K hK => ?_)
              go_simp
              refine (c_of (n := c) HBD.out.1 HBD.out.2.1).mono ?_
              rintro e w427 ⟨v, rfl, hv9, b427⟩
              obtain ⟨gn, go_, gl, gc, rfl, ig⟩ := hv9.see HBD.out.2.2 (by decide)
              clear hv9
              replace kd := kd.below (Nat.le_refl _) b427
              replace pvx := pvx.below b427
              have B427 : Below w317.heap.size w317 w427 := bstep B426 b427
              clear b427
              replace hHeld := KEEP _ B427
              go_wp2_with fail
              refine hK.out _ _ (L2.AllL.kept hHeld) ?_
              clear hK K
              (try simp only [Act.put, putA, putB, putC])
              refine L2.late_step 6 (by kernel_rfl) rfl (fun K hK => ?_)
              go_simp
              have idn : INum _ (.agg #[.bool false, .slice sO sL sC]) (S.den : Int) := ⟨false, sO, sL, sC, lim S.den, rfl, kd, HDL.out, by rw [val_lim]; rfl⟩
              have hq := c_new_yes ig idn HDZ.out
              rw [HT.out] at hq
              refine hq.mono ?_
              rintro e w428 ⟨v, rfl, hv9, b428⟩
              clear hq idn ig kd
              have rT := hv9.rw (HTS.out.mono (by decide))
              obtain ⟨m, d9, rfl, hm, hd9, hap⟩ := hv9
              obtain ⟨to9, tl, tc, rfl⟩ := hm.sl
              obtain ⟨tO, tL, tC, rfl⟩ := hd9.sl
              clear hm hd9 hap
              generalize decide (T.num < 0) = bT at *
              replace pvx := pvx.below b428
              have B428 : Below w317.heap.size w317 w428 := bstep B427 b428
              clear b428
              replace hHeld := KEEP _ B428
              go_wp2_with fail
              refine hK.out _ _ (L2.AllL.kept hHeld) ?_
              clear hK K
              (try simp only [Act.put, putA, putB, putC])
              refine L2.late_free 7 (v := .tuple #[.agg #[.bool bT, .slice to9 tl tc, .slice tO tL tC], .int .i64 0]) rfl (by kernel_rfl) (by kernel_rfl) (by kernel_rfl) (by kernel_rfl) (by kernel_rfl) (by kernel_rfl) (fun _ _ _ h => h) (Or.inl ⟨by rfl, ?_⟩) hHeld ?_
              · (intro u _; go_simp)
              (try simp only [Act.put, putA, putB, putC])
              refine L2.late_free 8 (v := .agg #[.bool bT, .slice to9 tl tc, .slice tO tL tC]) rfl (by kernel_rfl) (by kernel_rfl) (by kernel_rfl) (by kernel_rfl) (by kernel_rfl) (by kernel_rfl) (fun _ _ _ h => h) (Or.inl ⟨by rfl, ?_⟩) hHeld ?_
              · (intro u _; go_simp)
              (try simp only [Act.put, putA, putB, putC])
              refine L2.late_free 9 (v := .int .i64 0) rfl (by kernel_rfl) (by kernel_rfl) (by kernel_rfl) (by kernel_rfl) (by kernel_rfl) (by kernel_rfl) (fun _ _ _ h => h) (Or.inl ⟨by rfl, ?_⟩) hHeld ?_
              · (intro u _; go_simp)
              (try simp only [Act.put, putA, putB, putC])
              have Bz := B428
              obtain ⟨wl, rfl⟩ : ∃ u, u = w428 := ⟨_, rfl⟩
            case' t436 =>
             go_simp
             obtain ⟨w431, vx, hw, hv, pvx, b431, B431⟩ := new_pq B0
             rw [hw, hv]
             clear hw hv
             replace kW := kW.below b431
             replace kd := kd.below (Nat.le_refl _) b431
             clear b431
             replace hHeld := KEEP _ B431
             refine hK.out _ _ (L2.AllL.kept hHeld) ?_
             clear hK K
             (try simp only [Act.put, putA, putB, putC])
             refine L2.late_step 1 (by kernel_rfl) rfl (fun K hK => ?_)
             go_simp
             have hq := wSign kW
             rw [← HCS.out] at hq
             refine hq.mono ?_
             rintro e w432 ⟨rfl, b432⟩
             clear hq kW
             replace kd := kd.below (Nat.le_refl _) b432
             replace pvx := pvx.below b432
             have B432 : Below w317.heap.size w317 w432 := bstep B431 b432
             clear b432
             replace hHeld := KEEP _ B432
             go_wp2_with fail
             refine hK.out _ _ (L2.AllL.kept hHeld) ?_
             clear hK K
             (try simp only [Act.put, putA, putB, putC])
             refine L2.late_step 2 (by kernel_rfl) rfl (fun K hK => ?_)
             go_simp
             refine (c_of (n := c) HBD.out.1 HBD.out.2.1).mono ?_
             rintro e w433 ⟨v, rfl, hv9, b433⟩
             obtain ⟨gn, go_, gl, gc, rfl, ig⟩ := hv9.see HBD.out.2.2 (by decide)
             clear hv9
             replace kd := kd.below (Nat.le_refl _) b433
             replace pvx := pvx.below b433
             have B433 : Below w317.heap.size w317 w433 := bstep B432 b433
             clear b433
             replace hHeld := KEEP _ B433
             go_wp2_with fail
             refine hK.out _ _ (L2.AllL.kept hHeld) ?_
             clear hK K
             (try simp only [Act.put, putA, putB, putC])
             refine L2.late_step 6 (by kernel_rfl) rfl (fun K hK => ?_)
             go_simp
             have idn : INum _ (.agg #[.bool false, .slice sO sL sC]) (S.den : Int) := ⟨false, sO, sL, sC, lim S.den, rfl, kd, HDL.out, by rw [val_lim]; rfl⟩
             have hq := c_new_yes ig idn HDZ.out
             rw [HT.out] at hq
             refine hq.mono ?_
             rintro e w434 ⟨v, rfl, hv9, b434⟩
             clear hq idn ig kd
             have rT := hv9.rw (HTS.out.mono (by decide))
             obtain ⟨m, d9, rfl, hm, hd9, hap⟩ := hv9
             obtain ⟨to9, tl, tc, rfl⟩ := hm.sl
             obtain ⟨tO, tL, tC, rfl⟩ := hd9.sl
             clear hm hd9 hap
             generalize decide (T.num < 0) = bT at *
             replace pvx := pvx.below b434
             have B434 : Below w317.heap.size w317 w434 := bstep B433 b434
             clear b434
             replace hHeld := KEEP _ B434
             go_wp2_with fail
             refine hK.out _ _ (L2.AllL.kept hHeld) ?_
             clear hK K
             (try simp only [Act.put, putA, putB, putC])
             refine L2.late_free 7 (v := .tuple #[.agg #[.bool bT, .slice to9 tl tc, .slice tO tL tC], .int .i64 0]) rfl (by kernel_rfl) (by kernel_rfl) (by kernel_rfl) (by kernel_rfl) (by kernel_rfl) (by kernel_rfl) (fun _ _ _ h => h) (Or.inl ⟨by rfl, ?_⟩) hHeld ?_
             · (intro u _; go_simp)
             (try simp only [Act.put, putA, putB, putC])
             refine L2.late_free 8 (v := .agg #[.bool bT, .slice to9 tl tc, .slice tO tL tC]) rfl (by kernel_rfl) (by kernel_rfl) (by kernel_rfl) (by kernel_rfl) (by kernel_rfl) (by kernel_rfl) (fun _ _ _ h => h) (Or.inl ⟨by rfl, ?_⟩) hHeld ?_
             · (intro u _; go_simp)
             (try simp only [Act.put, putA, putB, putC])
             refine L2.late_free 9 (v := .int .i64 0) rfl (by kernel_rfl) (by kernel_rfl) (by kernel_rfl) (by kernel_rfl) (by kernel_rfl) (by kernel_rfl) (fun _ _ _ h => h) (Or.inl ⟨by rfl, ?_⟩) hHeld ?_
             · (intro u _; go_simp)
             (try simp only [Act.put, putA, putB, putC])
             have Bz := B434
             obtain ⟨wl, rfl⟩ : ∃ u, u = w434 := ⟨_, rfl⟩
            all_goals
              have HPQ : Hid _ := pq_end pvx rT Bz
              obtain ⟨y0, y1, y2⟩ := pvx.c.cells
              have f0 := pvx.c.thaw 0
              have f1 := pvx.c.thaw 1
              have f2 := pvx.c.thaw 2
              clear pvx rT Bz KEEP
              refine L2.late_step 11 (by kernel_rfl) rfl (fun K hK => ?_)
              go_simp
              refine hK.out _ _ ⟨kpt 1, kpt 11, trivial⟩ ?_
              clear hK K
              (try simp only [Act.put, putA, putB, putC])
              refine L2.late_step 12 (by kernel_rfl) rfl (fun K hK => ?_)
              go_simp
              refine hK.out _ _ ⟨kpt 1, kpt 11, trivial⟩ ?_
              clear hK K
              (try simp only [Act.put, putA, putB, putC])
              refine L2.late_done (by kernel_rfl) ?_ _
              clear hHeld y0 y1 y2 f0 f1 f2
              go_wp2_with fail
              go_meet
              exact ⟨_, _, _, _, _, _, _, _, rfl, rfl, HPQ.out⟩
          case rest =>
            obtain ⟨v16, nT, to9, tl, tc, tO, tL, tC, rfl, rfl, qT, rT, b⟩ := hcut
            replace hX := hX.below b
            replace hY := hY.below b
            replace hv := hv.below b
            replace hdn := hdn.below (Nat.le_refl _) b
            replace hW := hW.below b
            replace hb0 := bstep hb0 b
            replace hvd := hvd.below b
            replace qx := qx.below b
            replace qy := qy.below b
            replace qs := qs.below b
            replace qd := qd.below b
            replace hb := bstep hb b
            replace hsz := Nat.lt_of_lt_of_le hsz b.size
            clear b
            obtain ⟨cqx0, cqx1, cqx2⟩ := qx.cells
            obtain ⟨cqy0, cqy1, cqy2⟩ := qy.cells
            obtain ⟨cqs0, cqs1, cqs2⟩ := qs.cells
            obtain ⟨cqd0, cqd1, cqd2⟩ := qd.cells
            obtain ⟨cqT0, cqT1, cqT2⟩ := qT.cells
            go_wp2_with fail
            clear cqx0 cqx1 cqx2 cqy0 cqy1 cqy2 cqs0 cqs1 cqs2 cqd0 cqd1 cqd2 cqT0 cqT1 cqT2
            have hq := wSub hW rT
            obtain ⟨R, hR⟩ : ∃ R, R = S - T := ⟨_, rfl⟩
            have HRS : Hid (RSz R 40) := by show RSz _ _; rw [hR]; exact (HSS.out.sub' HTS.out).mono (by decide)
            have HNR : Hid (cmpQ R B < 0 ∨ 0 < cmpQ R A) := by
              refine sp_nearer HAB.out R S HSP.out (S.num - c) ?_ ?_
              · rcases HCB.out with h | h <;> omega
              · rw [hR, ← HT.out]
                conv => lhs; lhs; rw [← Rat.num_divInt_den S]
                rw [Rat.divInt_sub_divInt _ _ HDZ.out HDZ.out, ← Int.sub_mul]
                rw [Rat.divInt_mul_right HDZ.out]
            rw [← hR] at hq
            clear hR
            refine (hq).mono ?_
            rintro e w537 ⟨v, rfl, hv9, b⟩
            clear hq
            have rR := hv9.rw HRS.out
            obtain ⟨m, d9, rfl, hm, hd9, hap⟩ := hv9
            obtain ⟨ko, kl, kc, rfl⟩ := hm.sl
            obtain ⟨kO, kL, kC, rfl⟩ := hd9.sl
            clear hm hd9 hap
            generalize decide (R.num < 0) = bR at *
            replace hX := hX.below b
            replace hY := hY.below b
            replace hv := hv.below b
            replace hdn := hdn.below (Nat.le_refl _) b
            replace hW := hW.below b
            replace hb0 := bstep hb0 b
            replace hvd := hvd.below b
            replace rT := rT.below b
            replace qx := qx.below b
            replace qy := qy.below b
            replace qs := qs.below b
            replace qd := qd.below b
            replace qT := qT.below b
            replace hb := bstep hb b
            replace hsz := Nat.lt_of_lt_of_le hsz b.size
            clear b
            have hq0 : QCell (w537.alloc (.cells #[.bool false, .slice none 0 0, .slice none 0 0] 27)) w537.heap.size false (.slice none 0 0) (.slice none 0 0) := qcell_new _ rfl
            obtain ⟨W538, hW538⟩ : ∃ W, W = w537.alloc (.cells #[.bool bR, .slice ko kl kc, .slice kO kL kC] 27) := ⟨_, rfl⟩
            have qn : QCell W538 (w537.heap.size) bR (.slice ko kl kc) (.slice kO kL kC) := by rw [hW538]; exact qcell_new _ rfl
            have b : Below w537.heap.size w537 W538 := by rw [hW538]; exact belowA _ _
            obtain ⟨z0, z1, z2⟩ := hq0.cells
            have t0 := hq0.thaw 0
            have t1 := hq0.thaw 1
            have t2 := hq0.thaw 2
            clear hq0
            replace hX := hX.below b
            replace hY := hY.below b
            replace hv := hv.below b
            replace hdn := hdn.below (Nat.le_refl _) b
            replace hW := hW.below b
            replace hb0 := bstep hb0 b
            replace hvd := hvd.below b
            replace rT := rT.below b
            replace rR := rR.below b
            replace qx := qx.below b
            replace qy := qy.below b
            replace qs := qs.below b
            replace qd := qd.below b
            replace qT := qT.below b
            replace hb := bstep hb b
            replace hsz := Nat.lt_of_lt_of_le hsz b.size
            clear b
            have rqx0 : (w537.alloc (.cells #[.bool bR, .slice ko kl kc, .slice kO kL kC] 27)).cell? ⟨v4, 0, none⟩ = some (.bool nb) := by rw [← hW538]; exact qx.cells.1
            have rqx1 : (w537.alloc (.cells #[.bool bR, .slice ko kl kc, .slice kO kL kC] 27)).cell? ⟨v4, 1, none⟩ = some (.slice bo bl2 bc) := by rw [← hW538]; exact qx.cells.2.1
            have rqx2 : (w537.alloc (.cells #[.bool bR, .slice ko kl kc, .slice kO kL kC] 27)).cell? ⟨v4, 2, none⟩ = some (.slice bO bL2 bC) := by rw [← hW538]; exact qx.cells.2.2
            have rqy0 : (w537.alloc (.cells #[.bool bR, .slice ko kl kc, .slice kO kL kC] 27)).cell? ⟨v6, 0, none⟩ = some (.bool na) := by rw [← hW538]; exact qy.cells.1
            have rqy1 : (w537.alloc (.cells #[.bool bR, .slice ko kl kc, .slice kO kL kC] 27)).cell? ⟨v6, 1, none⟩ = some (.slice ao al2 ac) := by rw [← hW538]; exact qy.cells.2.1
            have rqy2 : (w537.alloc (.cells #[.bool bR, .slice ko kl kc, .slice kO kL kC] 27)).cell? ⟨v6, 2, none⟩ = some (.slice aO aL2 aC) := by rw [← hW538]; exact qy.cells.2.2
            have rqs0 : (w537.alloc (.cells #[.bool bR, .slice ko kl kc, .slice kO kL kC] 27)).cell? ⟨v9, 0, none⟩ = some (.bool bs) := by rw [← hW538]; exact qs.cells.1
            have rqs1 : (w537.alloc (.cells #[.bool bR, .slice ko kl kc, .slice kO kL kC] 27)).cell? ⟨v9, 1, none⟩ = some (.slice so sl sc) := by rw [← hW538]; exact qs.cells.2.1
            have rqs2 : (w537.alloc (.cells #[.bool bR, .slice ko kl kc, .slice kO kL kC] 27)).cell? ⟨v9, 2, none⟩ = some (.slice sO sL sC) := by rw [← hW538]; exact qs.cells.2.2
            have rqd0 : (w537.alloc (.cells #[.bool bR, .slice ko kl kc, .slice kO kL kC] 27)).cell? ⟨v214, 0, none⟩ = some (.bool bd) := by rw [← hW538]; exact qd.cells.1
            have rqd1 : (w537.alloc (.cells #[.bool bR, .slice ko kl kc, .slice kO kL kC] 27)).cell? ⟨v214, 1, none⟩ = some (.slice eo el ec) := by rw [← hW538]; exact qd.cells.2.1
            have rqd2 : (w537.alloc (.cells #[.bool bR, .slice ko kl kc, .slice kO kL kC] 27)).cell? ⟨v214, 2, none⟩ = some (.slice eO eL eC) := by rw [← hW538]; exact qd.cells.2.2
            have rqT0 : (w537.alloc (.cells #[.bool bR, .slice ko kl kc, .slice kO kL kC] 27)).cell? ⟨v16, 0, none⟩ = some (.bool nT) := by rw [← hW538]; exact qT.cells.1
            have rqT1 : (w537.alloc (.cells #[.bool bR, .slice ko kl kc, .slice kO kL kC] 27)).cell? ⟨v16, 1, none⟩ = some (.slice to9 tl tc) := by rw [← hW538]; exact qT.cells.2.1
            have rqT2 : (w537.alloc (.cells #[.bool bR, .slice ko kl kc, .slice kO kL kC] 27)).cell? ⟨v16, 2, none⟩ = some (.slice tO tL tC) := by rw [← hW538]; exact qT.cells.2.2
            have rqn0 : (w537.alloc (.cells #[.bool bR, .slice ko kl kc, .slice kO kL kC] 27)).cell? ⟨w537.heap.size, 0, none⟩ = some (.bool bR) := by rw [← hW538]; exact qn.cells.1
            have rqn1 : (w537.alloc (.cells #[.bool bR, .slice ko kl kc, .slice kO kL kC] 27)).cell? ⟨w537.heap.size, 1, none⟩ = some (.slice ko kl kc) := by rw [← hW538]; exact qn.cells.2.1
            have rqn2 : (w537.alloc (.cells #[.bool bR, .slice ko kl kc, .slice kO kL kC] 27)).cell? ⟨w537.heap.size, 2, none⟩ = some (.slice kO kL kC) := by rw [← hW538]; exact qn.cells.2.2
            obtain ⟨v538, hv538⟩ : ∃ v, v = w537.heap.size := ⟨_, rfl⟩
            rw [← hv538] at qn
            have HW538 : Hid (W538 = w537.alloc (.cells #[.bool bR, .slice ko kl kc, .slice kO kL kC] 27)) := hW538
            have Hv538 : Hid (v538 = w537.heap.size) := hv538
            clear hW538 hv538
            go_wp2_with fail
            rw [← HW538.out, ← Hv538.out]
            clear HW538 Hv538 z0 t0 z1 t1 z2 t2 rqx0 rqx1 rqx2 rqy0 rqy1 rqy2 rqs0 rqs1 rqs2 rqd0 rqd1 rqd2 rqT0 rqT1 rqT2 rqn0 rqn1 rqn2 
            by_cases h8 : cmpQ R B < 0
            · have hq := wCmp rR hY
              obtain ⟨c9, hc⟩ : ∃ c, c = cmpQ R B := ⟨_, rfl⟩
              have hc9 : c9 < 0 := by rw [hc]; omega
              rw [← hc] at hq
              clear hc
              refine (hq).mono ?_
              rintro e w639 ⟨rfl, b⟩
              clear hq
              replace hX := hX.below b
              replace hY := hY.below b
              replace hv := hv.below b
              replace hdn := hdn.below (Nat.le_refl _) b
              replace hW := hW.below b
              replace hb0 := bstep hb0 b
              replace hvd := hvd.below b
              replace rT := rT.below b
              replace rR := rR.below b
              replace qx := qx.below b
              replace qy := qy.below b
              replace qs := qs.below b
              replace qd := qd.below b
              replace qT := qT.below b
              replace qn := qn.below b
              replace hb := bstep hb b
              replace hsz := Nat.lt_of_lt_of_le hsz b.size
              clear b
              have HE : Hid (Below w.heap.size w w639) := hb
              clear hb hsz qx qy qs qd qT qn hX hY hv hdn hW hb0 hvd rT rR
              go_wp2
              go_ret
              exact ⟨rfl, HE.out⟩
            · have hq := wCmp rR hY
              obtain ⟨c9, hc⟩ : ∃ c, c = cmpQ R B := ⟨_, rfl⟩
              have hc9 : ¬ c9 < 0 := by rw [hc]; omega
              rw [← hc] at hq
              clear hc
              refine (hq).mono ?_
              rintro e w639 ⟨rfl, b⟩
              clear hq
              replace hX := hX.below b
              replace hY := hY.below b
              replace hv := hv.below b
              replace hdn := hdn.below (Nat.le_refl _) b
              replace hW := hW.below b
              replace hb0 := bstep hb0 b
              replace hvd := hvd.below b
              replace rT := rT.below b
              replace rR := rR.below b
              replace qx := qx.below b
              replace qy := qy.below b
              replace qs := qs.below b
              replace qd := qd.below b
              replace qT := qT.below b
              replace qn := qn.below b
              replace hb := bstep hb b
              replace hsz := Nat.lt_of_lt_of_le hsz b.size
              clear b
              obtain ⟨cqx0, cqx1, cqx2⟩ := qx.cells
              obtain ⟨cqy0, cqy1, cqy2⟩ := qy.cells
              obtain ⟨cqs0, cqs1, cqs2⟩ := qs.cells
              obtain ⟨cqd0, cqd1, cqd2⟩ := qd.cells
              obtain ⟨cqT0, cqT1, cqT2⟩ := qT.cells
              obtain ⟨cqn0, cqn1, cqn2⟩ := qn.cells
              go_wp2_with fail
              clear cqx0 cqx1 cqx2 cqy0 cqy1 cqy2 cqs0 cqs1 cqs2 cqd0 cqd1 cqd2 cqT0 cqT1 cqT2 cqn0 cqn1 cqn2
              have h9 : 0 < cmpQ R A := HNR.out.resolve_left (by omega)
              have hq := wCmp rR hX
              obtain ⟨c7, hc⟩ : ∃ c, c = cmpQ R A := ⟨_, rfl⟩
              have hc7 : 0 < c7 := by rw [hc]; omega
              rw [← hc] at hq
              clear hc
              refine (hq).mono ?_
              rintro e w640 ⟨rfl, b⟩
              clear hq
              replace hX := hX.below b
              replace hY := hY.below b
              replace hv := hv.below b
              replace hdn := hdn.below (Nat.le_refl _) b
              replace hW := hW.below b
              replace hb0 := bstep hb0 b
              replace hvd := hvd.below b
              replace rT := rT.below b
              replace rR := rR.below b
              replace qx := qx.below b
              replace qy := qy.below b
              replace qs := qs.below b
              replace qd := qd.below b
              replace qT := qT.below b
              replace qn := qn.below b
              replace hb := bstep hb b
              replace hsz := Nat.lt_of_lt_of_le hsz b.size
              clear b
              have HE : Hid (Below w.heap.size w w640) := hb
              clear hb hsz qx qy qs qd qT qn hX hY hv hdn hW hb0 hvd rT rR
              go_wp2
              go_ret
              exact ⟨rfl, HE.out⟩
      · have KEEP : ∀ u, Below W214.heap.size W214 u → AllL u [(4, fun w' => w'.cell? ⟨v9, 2, none⟩ = some (.slice sO sL sC))] := fun u B => ⟨(qs.below B).cells.2.2, trivial⟩
        refine region_late [(4, fun w' => w'.cell? ⟨v9, 2, none⟩ = some (.slice sO sL sC))] (by kernel_rfl) ?_
        have BZ : Below W214.heap.size W214 W214.drew := below_drew' _
        obtain ⟨wz, hwz⟩ : ∃ u, u = W214.drew := ⟨_, rfl⟩
        rw [← hwz] at BZ ⊢
        clear hwz
        have hHeld := KEEP _ BZ
        have khdn := hdn.below (Nat.le_refl _) BZ
        refine late_fr 0 (v := .int .i64 (d : Int)) rfl (Or.inl ⟨by rfl, ?_⟩) hHeld ?_
        · (intro u _; go_simp)
        (try simp only [Act.put, putA, putB, putC])
        refine late_fr 1 (v := .int .u64 (d : Int)) rfl (Or.inl ⟨by rfl, ?_⟩) hHeld ?_
        · (intro u _; go_simp)
        (try simp only [Act.put, putA, putB, putC])
        refine late_fr 3 (v := .pointer (some ⟨v9, 2, none⟩)) rfl (Or.inl ⟨by rfl, ?_⟩) hHeld ?_
        · (intro u _; go_simp)
        (try simp only [Act.put, putA, putB, putC])
        refine late_tk 4 (v := .slice sO sL sC) rfl (List.Mem.head _) (Or.inl ⟨by rfl, ?_⟩) hHeld ?_
        · (intro u hu; (try dsimp only at hu); go_split_ands; go_simp)
        (try simp only [Act.put, putA, putB, putC])
        refine late_st 2 rfl (fun K hK => ?_)
        go_simp
        refine (of_any d _ (by omega)).mono ?_
        rintro e w315 ⟨v, rfl, ho, b315⟩
        obtain ⟨xo, xl, xc, rfl⟩ := ho.sl
        have hn := ho.num
        clear ho
        replace khdn := khdn.below (Nat.le_refl _) b315
        have B315 : Below W214.heap.size W214 w315 := bstep BZ b315
        clear BZ b315
        replace hHeld := KEEP _ B315
        go_wp2_with fail
        refine hK.out _ _ (AllL.kept hHeld) ?_
        clear hK K
        (try simp only [Act.put, putA, putB, putC])
        have hq := ncmp hn (khdn.below (Nat.le_refl _) (Below.refl _ _))
        rw [val_lim, val_lim] at hq
        obtain ⟨c, hc⟩ : ∃ c, c = cmpN d S.den := ⟨_, rfl⟩
        have hcc : ¬ 0 ≤ c := by rw [hc]; unfold cmpN; split <;> (try split) <;> omega
        rw [← hc] at hq
        clear hc
        refine late_st 5 rfl (fun K hK => ?_)
        go_simp
        refine (hq).mono ?_
        rintro e w316 ⟨rfl, b316⟩
        clear hq hn
        have B316 : Below W214.heap.size W214 w316 := bstep B315 b316
        clear B315 b316
        replace hHeld := KEEP _ B316
        go_wp2_with fail
        refine hK.out _ _ (AllL.kept hHeld) ?_
        clear hK K
        (try simp only [Act.put, putA, putB, putC])
        refine late_st 6 rfl (fun K hK => ?_)
        go_simp
        refine hK.out _ _ (AllL.kept hHeld) ?_
        clear hK K
        (try simp only [Act.put, putA, putB, putC])
        refine late_done (by kernel_rfl) ?_ _
        clear KEEP hHeld khdn
        have b := B316
        clear B316
        replace hX := hX.below b
        replace hY := hY.below b
        replace hv := hv.below b
        replace hdn := hdn.below (Nat.le_refl _) b
        replace hW := hW.below b
        replace hb0 := bstep hb0 b
        replace hvd := hvd.below b
        replace qx := qx.below b
        replace qy := qy.below b
        replace qs := qs.below b
        replace qd := qd.below b
        replace hb := bstep hb b
        replace hsz := Nat.lt_of_lt_of_le hsz b.size
        clear b
        obtain ⟨cqx0, cqx1, cqx2⟩ := qx.cells
        obtain ⟨cqy0, cqy1, cqy2⟩ := qy.cells
        obtain ⟨cqs0, cqs1, cqs2⟩ := qs.cells
        obtain ⟨cqd0, cqd1, cqd2⟩ := qd.cells
        go_wp2_with fail
        clear cqx0 cqx1 cqx2 cqy0 cqy1 cqy2 cqs0 cqs1 cqs2 cqd0 cqd1 cqd2
        have hE := hvd.rw (HDS.out.mono (by decide))
        have hq := wMul hY hE
        refine (hq).mono ?_
        rintro e w317 ⟨v, rfl, hv9, b⟩
        clear hq
        have rj := hv9.rw ((HS2.out.mul' HDS.out).mono (by decide))
        obtain ⟨m, d9, rfl, hm, hd9, hap⟩ := id hv9
        obtain ⟨jo, jl, jc, rfl⟩ := hm.sl
        obtain ⟨jO, jL, jC, rfl⟩ := hd9.sl
        clear hm hd9 hap
        clear hv9
        generalize decide ((B * D).num < 0) = bj at *
        replace hX := hX.below b
        replace hY := hY.below b
        replace hv := hv.below b
        replace hdn := hdn.below (Nat.le_refl _) b
        replace hW := hW.below b
        replace hb0 := bstep hb0 b
        replace hvd := hvd.below b
        replace hE := hE.below b
        replace qx := qx.below b
        replace qy := qy.below b
        replace qs := qs.below b
        replace qd := qd.below b
        replace hb := bstep hb b
        replace hsz := Nat.lt_of_lt_of_le hsz b.size
        clear b
        obtain ⟨cqx0, cqx1, cqx2⟩ := qx.cells
        obtain ⟨cqy0, cqy1, cqy2⟩ := qy.cells
        obtain ⟨cqs0, cqs1, cqs2⟩ := qs.cells
        obtain ⟨cqd0, cqd1, cqd2⟩ := qd.cells
        go_wp2_with fail
        clear cqx0 cqx1 cqx2 cqy0 cqy1 cqy2 cqs0 cqs1 cqs2 cqd0 cqd1 cqd2
        have hq := wNeg rj
        refine (hq).mono ?_
        rintro e w318 ⟨v, rfl, hv9, b⟩
        clear hq
        have rk := hv9.rw ((HS2.out.mul' HDS.out).neg'.mono (by decide))
        obtain ⟨m, d9, rfl, hm, hd9, hap⟩ := id hv9
        obtain ⟨ko, kl, kc, rfl⟩ := hm.sl
        obtain ⟨kO, kL, kC, rfl⟩ := hd9.sl
        clear hm hd9 hap
        clear hv9
        generalize decide ((-(B * D)).num < 0) = bk at *
        replace hX := hX.below b
        replace hY := hY.below b
        replace hv := hv.below b
        replace hdn := hdn.below (Nat.le_refl _) b
        replace hW := hW.below b
        replace hb0 := bstep hb0 b
        replace hvd := hvd.below b
        replace hE := hE.below b
        replace rj := rj.below b
        replace qx := qx.below b
        replace qy := qy.below b
        replace qs := qs.below b
        replace qd := qd.below b
        replace hb := bstep hb b
        replace hsz := Nat.lt_of_lt_of_le hsz b.size
        clear b
        obtain ⟨cqx0, cqx1, cqx2⟩ := qx.cells
        obtain ⟨cqy0, cqy1, cqy2⟩ := qy.cells
        obtain ⟨cqs0, cqs1, cqs2⟩ := qs.cells
        obtain ⟨cqd0, cqd1, cqd2⟩ := qd.cells
        go_wp2_with fail
        clear cqx0 cqx1 cqx2 cqy0 cqy1 cqy2 cqs0 cqs1 cqs2 cqd0 cqd1 cqd2
        have hq := wFloor rk
        refine (hq).mono ?_
        rintro e w319 ⟨v, rfl, hv9, b⟩
        clear hq
        obtain ⟨np, po, pl, pc, rfl, ip⟩ := hv9.see (flo2_sz ((HS2.out.mul' HDS.out).neg') (by decide)) (by decide)
        clear hv9
        replace hX := hX.below b
        replace hY := hY.below b
        replace hv := hv.below b
        replace hdn := hdn.below (Nat.le_refl _) b
        replace hW := hW.below b
        replace hb0 := bstep hb0 b
        replace hvd := hvd.below b
        replace hE := hE.below b
        replace rj := rj.below b
        replace rk := rk.below b
        replace qx := qx.below b
        replace qy := qy.below b
        replace qs := qs.below b
        replace qd := qd.below b
        replace hb := bstep hb b
        replace hsz := Nat.lt_of_lt_of_le hsz b.size
        clear b
        have hq0 : ICell (w319.alloc (.cells #[.bool false, .slice none 0 0] 25)) w319.heap.size false (.slice none 0 0) := icell_new _ rfl
        obtain ⟨W320, hW320⟩ : ∃ W, W = w319.alloc (.cells #[.bool np, .slice po pl pc] 25) := ⟨_, rfl⟩
        have qp : ICell W320 (w319.heap.size) np (.slice po pl pc) := by rw [hW320]; exact icell_new _ rfl
        have b : Below w319.heap.size w319 W320 := by rw [hW320]; exact belowA _ _
        obtain ⟨z0, z1⟩ := hq0.cells
        have t0 := hq0.thaw 0
        have t1 := hq0.thaw 1
        clear hq0
        replace hX := hX.below b
        replace hY := hY.below b
        replace hv := hv.below b
        replace hdn := hdn.below (Nat.le_refl _) b
        replace hW := hW.below b
        replace hb0 := bstep hb0 b
        replace hvd := hvd.below b
        replace hE := hE.below b
        replace rj := rj.below b
        replace rk := rk.below b
        replace ip := ip.below b
        replace qx := qx.below b
        replace qy := qy.below b
        replace qs := qs.below b
        replace qd := qd.below b
        replace hb := bstep hb b
        replace hsz := Nat.lt_of_lt_of_le hsz b.size
        clear b
        have rqx0 : (w319.alloc (.cells #[.bool np, .slice po pl pc] 25)).cell? ⟨v4, 0, none⟩ = some (.bool nb) := by rw [← hW320]; exact qx.cells.1
        have rqx1 : (w319.alloc (.cells #[.bool np, .slice po pl pc] 25)).cell? ⟨v4, 1, none⟩ = some (.slice bo bl2 bc) := by rw [← hW320]; exact qx.cells.2.1
        have rqx2 : (w319.alloc (.cells #[.bool np, .slice po pl pc] 25)).cell? ⟨v4, 2, none⟩ = some (.slice bO bL2 bC) := by rw [← hW320]; exact qx.cells.2.2
        have rqy0 : (w319.alloc (.cells #[.bool np, .slice po pl pc] 25)).cell? ⟨v6, 0, none⟩ = some (.bool na) := by rw [← hW320]; exact qy.cells.1
        have rqy1 : (w319.alloc (.cells #[.bool np, .slice po pl pc] 25)).cell? ⟨v6, 1, none⟩ = some (.slice ao al2 ac) := by rw [← hW320]; exact qy.cells.2.1
        have rqy2 : (w319.alloc (.cells #[.bool np, .slice po pl pc] 25)).cell? ⟨v6, 2, none⟩ = some (.slice aO aL2 aC) := by rw [← hW320]; exact qy.cells.2.2
        have rqs0 : (w319.alloc (.cells #[.bool np, .slice po pl pc] 25)).cell? ⟨v9, 0, none⟩ = some (.bool bs) := by rw [← hW320]; exact qs.cells.1
        have rqs1 : (w319.alloc (.cells #[.bool np, .slice po pl pc] 25)).cell? ⟨v9, 1, none⟩ = some (.slice so sl sc) := by rw [← hW320]; exact qs.cells.2.1
        have rqs2 : (w319.alloc (.cells #[.bool np, .slice po pl pc] 25)).cell? ⟨v9, 2, none⟩ = some (.slice sO sL sC) := by rw [← hW320]; exact qs.cells.2.2
        have rqd0 : (w319.alloc (.cells #[.bool np, .slice po pl pc] 25)).cell? ⟨v214, 0, none⟩ = some (.bool bd) := by rw [← hW320]; exact qd.cells.1
        have rqd1 : (w319.alloc (.cells #[.bool np, .slice po pl pc] 25)).cell? ⟨v214, 1, none⟩ = some (.slice eo el ec) := by rw [← hW320]; exact qd.cells.2.1
        have rqd2 : (w319.alloc (.cells #[.bool np, .slice po pl pc] 25)).cell? ⟨v214, 2, none⟩ = some (.slice eO eL eC) := by rw [← hW320]; exact qd.cells.2.2
        have rqp0 : (w319.alloc (.cells #[.bool np, .slice po pl pc] 25)).cell? ⟨w319.heap.size, 0, none⟩ = some (.bool np) := by rw [← hW320]; exact qp.cells.1
        have rqp1 : (w319.alloc (.cells #[.bool np, .slice po pl pc] 25)).cell? ⟨w319.heap.size, 1, none⟩ = some (.slice po pl pc) := by rw [← hW320]; exact qp.cells.2
        obtain ⟨v320, hv320⟩ : ∃ v, v = w319.heap.size := ⟨_, rfl⟩
        rw [← hv320] at qp
        have HW320 : Hid (W320 = w319.alloc (.cells #[.bool np, .slice po pl pc] 25)) := hW320
        have Hv320 : Hid (v320 = w319.heap.size) := hv320
        clear hW320 hv320
        go_wp2_with fail
        rw [← HW320.out, ← Hv320.out]
        clear HW320 Hv320 z0 t0 z1 t1 rqx0 rqx1 rqx2 rqy0 rqy1 rqy2 rqs0 rqs1 rqs2 rqd0 rqd1 rqd2 rqp0 rqp1 
        have hq := wMul hX hE
        refine (hq).mono ?_
        rintro e w321 ⟨v, rfl, hv9, b⟩
        clear hq
        have rf := hv9.rw ((HS1.out.mul' HDS.out).mono (by decide))
        obtain ⟨m, d9, rfl, hm, hd9, hap⟩ := id hv9
        obtain ⟨fo, fl, fc, rfl⟩ := hm.sl
        obtain ⟨fO, fL, fC, rfl⟩ := hd9.sl
        clear hm hd9 hap
        clear hv9
        generalize decide ((A * D).num < 0) = bf at *
        replace hX := hX.below b
        replace hY := hY.below b
        replace hv := hv.below b
        replace hdn := hdn.below (Nat.le_refl _) b
        replace hW := hW.below b
        replace hb0 := bstep hb0 b
        replace hvd := hvd.below b
        replace hE := hE.below b
        replace rj := rj.below b
        replace rk := rk.below b
        replace ip := ip.below b
        replace qx := qx.below b
        replace qy := qy.below b
        replace qs := qs.below b
        replace qd := qd.below b
        replace qp := qp.below b
        replace hb := bstep hb b
        replace hsz := Nat.lt_of_lt_of_le hsz b.size
        clear b
        obtain ⟨cqx0, cqx1, cqx2⟩ := qx.cells
        obtain ⟨cqy0, cqy1, cqy2⟩ := qy.cells
        obtain ⟨cqs0, cqs1, cqs2⟩ := qs.cells
        obtain ⟨cqd0, cqd1, cqd2⟩ := qd.cells
        obtain ⟨cqp0, cqp1⟩ := qp.cells
        go_wp2_with fail
        clear cqx0 cqx1 cqx2 cqy0 cqy1 cqy2 cqs0 cqs1 cqs2 cqd0 cqd1 cqd2 cqp0 cqp1
        have hq := wFloor rf
        refine (hq).mono ?_
        rintro e w322 ⟨v, rfl, hv9, b⟩
        clear hq
        obtain ⟨nr, ro, rl, rc, rfl, ir⟩ := hv9.see (flo2_sz (HS1.out.mul' HDS.out) (by decide)) (by decide)
        clear hv9
        replace hX := hX.below b
        replace hY := hY.below b
        replace hv := hv.below b
        replace hdn := hdn.below (Nat.le_refl _) b
        replace hW := hW.below b
        replace hb0 := bstep hb0 b
        replace hvd := hvd.below b
        replace hE := hE.below b
        replace rj := rj.below b
        replace rk := rk.below b
        replace ip := ip.below b
        replace rf := rf.below b
        replace qx := qx.below b
        replace qy := qy.below b
        replace qs := qs.below b
        replace qd := qd.below b
        replace qp := qp.below b
        replace hb := bstep hb b
        replace hsz := Nat.lt_of_lt_of_le hsz b.size
        clear b
        have hq0 : ICell (w322.alloc (.cells #[.bool false, .slice none 0 0] 25)) w322.heap.size false (.slice none 0 0) := icell_new _ rfl
        obtain ⟨W323, hW323⟩ : ∃ W, W = w322.alloc (.cells #[.bool nr, .slice ro rl rc] 25) := ⟨_, rfl⟩
        have qr : ICell W323 (w322.heap.size) nr (.slice ro rl rc) := by rw [hW323]; exact icell_new _ rfl
        have b : Below w322.heap.size w322 W323 := by rw [hW323]; exact belowA _ _
        obtain ⟨z0, z1⟩ := hq0.cells
        have t0 := hq0.thaw 0
        have t1 := hq0.thaw 1
        clear hq0
        replace hX := hX.below b
        replace hY := hY.below b
        replace hv := hv.below b
        replace hdn := hdn.below (Nat.le_refl _) b
        replace hW := hW.below b
        replace hb0 := bstep hb0 b
        replace hvd := hvd.below b
        replace hE := hE.below b
        replace rj := rj.below b
        replace rk := rk.below b
        replace ip := ip.below b
        replace rf := rf.below b
        replace ir := ir.below b
        replace qx := qx.below b
        replace qy := qy.below b
        replace qs := qs.below b
        replace qd := qd.below b
        replace qp := qp.below b
        replace hb := bstep hb b
        replace hsz := Nat.lt_of_lt_of_le hsz b.size
        clear b
        have rqx0 : (w322.alloc (.cells #[.bool nr, .slice ro rl rc] 25)).cell? ⟨v4, 0, none⟩ = some (.bool nb) := by rw [← hW323]; exact qx.cells.1
        have rqx1 : (w322.alloc (.cells #[.bool nr, .slice ro rl rc] 25)).cell? ⟨v4, 1, none⟩ = some (.slice bo bl2 bc) := by rw [← hW323]; exact qx.cells.2.1
        have rqx2 : (w322.alloc (.cells #[.bool nr, .slice ro rl rc] 25)).cell? ⟨v4, 2, none⟩ = some (.slice bO bL2 bC) := by rw [← hW323]; exact qx.cells.2.2
        have rqy0 : (w322.alloc (.cells #[.bool nr, .slice ro rl rc] 25)).cell? ⟨v6, 0, none⟩ = some (.bool na) := by rw [← hW323]; exact qy.cells.1
        have rqy1 : (w322.alloc (.cells #[.bool nr, .slice ro rl rc] 25)).cell? ⟨v6, 1, none⟩ = some (.slice ao al2 ac) := by rw [← hW323]; exact qy.cells.2.1
        have rqy2 : (w322.alloc (.cells #[.bool nr, .slice ro rl rc] 25)).cell? ⟨v6, 2, none⟩ = some (.slice aO aL2 aC) := by rw [← hW323]; exact qy.cells.2.2
        have rqs0 : (w322.alloc (.cells #[.bool nr, .slice ro rl rc] 25)).cell? ⟨v9, 0, none⟩ = some (.bool bs) := by rw [← hW323]; exact qs.cells.1
        have rqs1 : (w322.alloc (.cells #[.bool nr, .slice ro rl rc] 25)).cell? ⟨v9, 1, none⟩ = some (.slice so sl sc) := by rw [← hW323]; exact qs.cells.2.1
        have rqs2 : (w322.alloc (.cells #[.bool nr, .slice ro rl rc] 25)).cell? ⟨v9, 2, none⟩ = some (.slice sO sL sC) := by rw [← hW323]; exact qs.cells.2.2
        have rqd0 : (w322.alloc (.cells #[.bool nr, .slice ro rl rc] 25)).cell? ⟨v214, 0, none⟩ = some (.bool bd) := by rw [← hW323]; exact qd.cells.1
        have rqd1 : (w322.alloc (.cells #[.bool nr, .slice ro rl rc] 25)).cell? ⟨v214, 1, none⟩ = some (.slice eo el ec) := by rw [← hW323]; exact qd.cells.2.1
        have rqd2 : (w322.alloc (.cells #[.bool nr, .slice ro rl rc] 25)).cell? ⟨v214, 2, none⟩ = some (.slice eO eL eC) := by rw [← hW323]; exact qd.cells.2.2
        have rqp0 : (w322.alloc (.cells #[.bool nr, .slice ro rl rc] 25)).cell? ⟨v320, 0, none⟩ = some (.bool np) := by rw [← hW323]; exact qp.cells.1
        have rqp1 : (w322.alloc (.cells #[.bool nr, .slice ro rl rc] 25)).cell? ⟨v320, 1, none⟩ = some (.slice po pl pc) := by rw [← hW323]; exact qp.cells.2
        have rqr0 : (w322.alloc (.cells #[.bool nr, .slice ro rl rc] 25)).cell? ⟨w322.heap.size, 0, none⟩ = some (.bool nr) := by rw [← hW323]; exact qr.cells.1
        have rqr1 : (w322.alloc (.cells #[.bool nr, .slice ro rl rc] 25)).cell? ⟨w322.heap.size, 1, none⟩ = some (.slice ro rl rc) := by rw [← hW323]; exact qr.cells.2
        obtain ⟨v323, hv323⟩ : ∃ v, v = w322.heap.size := ⟨_, rfl⟩
        rw [← hv323] at qr
        have HW323 : Hid (W323 = w322.alloc (.cells #[.bool nr, .slice ro rl rc] 25)) := hW323
        have Hv323 : Hid (v323 = w322.heap.size) := hv323
        clear hW323 hv323
        go_wp2_with fail
        rw [← HW323.out, ← Hv323.out]
        clear HW323 Hv323 z0 t0 z1 t1 rqx0 rqx1 rqx2 rqy0 rqy1 rqy2 rqs0 rqs1 rqs2 rqd0 rqd1 rqd2 rqp0 rqp1 rqr0 rqr1 
        have hgap := sp_gap HAB.out (d := d) h1 (by rw [← HSP.out]; omega) HD.out
        have HGAP : Hid (¬ -flo2 (-(B * D)) ≤ flo2 (A * D)) := hgap
        clear hgap
        have HSZ : Hid (Sz (-flo2 (-(B * D))) 1000000) := (flo2_sz ((HS2.out.mul' HDS.out).neg') (by decide)).neg.mono (by decide)
        have KEEP : ∀ u, Below W323.heap.size W323 u → AllL u [(0, fun w' => w'.cell? ⟨v320, 0, none⟩ = some (.bool np) ∧ w'.cell? ⟨v320, 1, none⟩ = some (.slice po pl pc)), (2, fun w' => w'.cell? ⟨v323, 0, none⟩ = some (.bool nr) ∧ w'.cell? ⟨v323, 1, none⟩ = some (.slice ro rl rc))] := fun u B => ⟨(qp.below B).cells, (qr.below B).cells, trivial⟩
        refine region_late [(0, fun w' => w'.cell? ⟨v320, 0, none⟩ = some (.bool np) ∧ w'.cell? ⟨v320, 1, none⟩ = some (.slice po pl pc)), (2, fun w' => w'.cell? ⟨v323, 0, none⟩ = some (.bool nr) ∧ w'.cell? ⟨v323, 1, none⟩ = some (.slice ro rl rc))] (by kernel_rfl) ?_
        have BZ : Below W323.heap.size W323 W323.drew := below_drew' _
        obtain ⟨wz, hwz⟩ : ∃ u, u = W323.drew := ⟨_, rfl⟩
        rw [← hwz] at BZ ⊢
        clear hwz
        have hHeld := KEEP _ BZ
        have kip := ip.below BZ
        have kir := ir.below BZ
        refine late_tk 0 (v := .agg #[.bool np, .slice po pl pc]) rfl (List.Mem.head _) (Or.inl ⟨by rfl, ?_⟩) hHeld ?_
        · (intro u hu; (try dsimp only at hu); go_split_ands; go_simp)
        (try simp only [Act.put, putA, putB, putC])
        refine late_tk 2 (v := .agg #[.bool nr, .slice ro rl rc]) rfl (List.Mem.tail _ (List.Mem.head _)) (Or.inl ⟨by rfl, ?_⟩) hHeld ?_
        · (intro u hu; (try dsimp only at hu); go_split_ands; go_simp)
        (try simp only [Act.put, putA, putB, putC])
        refine late_st 1 rfl (fun K hK => ?_)
        go_simp
        refine (c_neg kip).mono ?_
        rintro e w324 ⟨v, rfl, hv9, b324⟩
        obtain ⟨ny, yo, yl, yc, rfl, iy⟩ := hv9.see HSZ.out (Nat.le_refl _)
        clear hv9 kip
        replace kir := kir.below b324
        have B324 : Below W323.heap.size W323 w324 := bstep BZ b324
        clear BZ b324
        replace hHeld := KEEP _ B324
        go_wp2_with fail
        refine hK.out _ _ (AllL.kept hHeld) ?_
        clear hK K
        (try simp only [Act.put, putA, putB, putC])
        have hq := c_cmp iy kir
        obtain ⟨c, hc⟩ : ∃ c, c = cmpZ (-flo2 (-(B * D))) (flo2 (A * D)) := ⟨_, rfl⟩
        have hcc : ¬ c ≤ 0 := by rw [hc]; have := HGAP.out; unfold cmpZ; rw [if_neg (by omega), if_neg (by omega)]; decide
        rw [← hc] at hq
        clear hc
        refine late_st 3 rfl (fun K hK => ?_)
        go_simp
        refine (hq).mono ?_
        rintro e w325 ⟨rfl, b325⟩
        clear hq iy kir
        have B325 : Below W323.heap.size W323 w325 := bstep B324 b325
        clear B324 b325
        replace hHeld := KEEP _ B325
        go_wp2_with fail
        refine hK.out _ _ (AllL.kept hHeld) ?_
        clear hK K
        (try simp only [Act.put, putA, putB, putC])
        refine late_st 4 rfl (fun K hK => ?_)
        go_simp
        refine hK.out _ _ (AllL.kept hHeld) ?_
        clear hK K
        (try simp only [Act.put, putA, putB, putC])
        refine late_done (by kernel_rfl) ?_ _
        clear KEEP hHeld
        have b := B325
        clear B325
        replace hX := hX.below b
        replace hY := hY.below b
        replace hv := hv.below b
        replace hdn := hdn.below (Nat.le_refl _) b
        replace hW := hW.below b
        replace hb0 := bstep hb0 b
        replace hvd := hvd.below b
        replace hE := hE.below b
        replace rj := rj.below b
        replace rk := rk.below b
        replace ip := ip.below b
        replace rf := rf.below b
        replace ir := ir.below b
        replace qx := qx.below b
        replace qy := qy.below b
        replace qs := qs.below b
        replace qd := qd.below b
        replace qp := qp.below b
        replace qr := qr.below b
        replace hb := bstep hb b
        replace hsz := Nat.lt_of_lt_of_le hsz b.size
        clear b
        have HEND : Hid (Below w12.heap.size w12 w325) := hb0
        clear hb0 hb hsz qx qy qs qd qp qr hX hY hv hdn hW hvd hE rj rk ip rf ir
        go_wp2
        go_roundw
        case rel => exact ⟨d + 1, by omega, by omega, by go_num, HEND.out⟩
        case measure => simp [intOf]; omega
    · have hdi : ¬ (d : Int) ≤ 200 := by omega
      obtain ⟨cqx0, cqx1, cqx2⟩ := qx.cells
      obtain ⟨cqy0, cqy1, cqy2⟩ := qy.cells
      obtain ⟨cqs0, cqs1, cqs2⟩ := qs.cells
      go_wp2_with fail
      clear cqx0 cqx1 cqx2 cqy0 cqy1 cqy2 cqs0 cqs1 cqs2
      have hq := wSign hW
      obtain ⟨c, hc⟩ : ∃ c, c = sgnQ S := ⟨_, rfl⟩
      have HCS : Hid (c = sgnQ S) := hc
      rw [← hc] at hq
      clear hc
      refine (hq).mono ?_
      rintro e w213 ⟨rfl, b⟩
      clear hq
      replace hX := hX.below b
      replace hY := hY.below b
      replace hv := hv.below b
      replace hdn := hdn.below (Nat.le_refl _) b
      replace hW := hW.below b
      replace hb0 := bstep hb0 b
      replace qx := qx.below b
      replace qy := qy.below b
      replace qs := qs.below b
      replace hb := bstep hb b
      replace hsz := Nat.lt_of_lt_of_le hsz b.size
      clear b
      by_cases hz : c = 0
      · have HE : Hid (Below w.heap.size w w213) := hb
        clear hb hsz qx qy qs hX hY hv hdn hW hb0
        go_wp2
        go_ret
        exact ⟨rfl, HE.out⟩
      · obtain ⟨cqx0, cqx1, cqx2⟩ := qx.cells
        obtain ⟨cqy0, cqy1, cqy2⟩ := qy.cells
        obtain ⟨cqs0, cqs1, cqs2⟩ := qs.cells
        go_wp2_with fail
        clear cqx0 cqx1 cqx2 cqy0 cqy1 cqy2 cqs0 cqs1 cqs2
        have HCB : Hid ((c = 1 ∧ 0 < S.num) ∨ (c = -1 ∧ S.num < 0)) := by
          have h := HCS.out
          unfold sgnQ cmpZ at h
          split at h
          · exact Or.inr ⟨h, by assumption⟩
          · split at h
            · exact absurd h hz
            · exact Or.inl ⟨h, by omega⟩
        have HBD : Hid (-9223372036854775808 ≤ c ∧ c ≤ 9223372036854775807 ∧ Sz c 1) := by
          rcases HCB.out with h | h
          · rw [h.1]; exact ⟨by decide, by decide, Sz.one⟩
          · rw [h.1]; exact ⟨by decide, by decide, Sz.one.neg⟩
        obtain ⟨T, hT⟩ : ∃ T, T = Rat.divInt c (S.den : Int) := ⟨_, rfl⟩
        have HT : Hid (Rat.divInt c (S.den : Int) = T) := hT.symm
        have hdz : (S.den : Int) ≠ 0 := by have := S.den_pos; omega
        have HTS : Hid (RSz T 3) := by show RSz _ _; rw [hT]; exact RSz.of hdz (HBD.out.2.2.mono (by decide)) HSS.out.den
        have HDL : Hid ((lim S.den).length ≤ 1000000) := by have := HSS.out.den.len; rw [Int.natAbs_natCast] at this; exact Nat.le_trans this (by decide)
        have HDZ : Hid ((S.den : Int) ≠ 0) := hdz
        clear hT hdz
        go_cut [16, 17] (fun t u wx => ∃ v n o l c O L C, t = .pointer (some ⟨v, 0, none⟩) ∧ u = .int .i64 0 ∧ QCell wx v n (.slice o l c) (.slice O L C) ∧ RW wx (.agg #[.bool n, .slice o l c, .slice O L C]) T ∧ Below w213.heap.size w213 wx)
        case first =>
          have KEEP : ∀ u, Below w213.heap.size w213 u → L2.AllL u [(0, fun w' => w'.cell? ⟨v9, 0, none⟩ = some (.bool bs) ∧ w'.cell? ⟨v9, 1, none⟩ = some (.slice so sl sc) ∧ w'.cell? ⟨v9, 2, none⟩ = some (.slice sO sL sC)), (4, fun w' => w'.cell? ⟨v9, 2, none⟩ = some (.slice sO sL sC))] := fun u B => ⟨(qs.below B).cells, (qs.below B).cells.2.2, trivial⟩
          refine L2.region_late [(0, fun w' => w'.cell? ⟨v9, 0, none⟩ = some (.bool bs) ∧ w'.cell? ⟨v9, 1, none⟩ = some (.slice so sl sc) ∧ w'.cell? ⟨v9, 2, none⟩ = some (.slice sO sL sC)), (4, fun w' => w'.cell? ⟨v9, 2, none⟩ = some (.slice sO sL sC))] (by kernel_rfl) ?_
          have B0 : Below w213.heap.size w213 w213.drew := below_drew' _
          obtain ⟨w0, hw0⟩ : ∃ u, u = w213.drew := ⟨_, rfl⟩
          rw [← hw0] at B0 ⊢
          clear hw0
          have hHeld := KEEP _ B0
          have kW := hW.below B0
          have kd := hdn.below (Nat.le_refl _) B0
          refine L2.late_take 0 (v := .agg #[.bool bs, .slice so sl sc, .slice sO sL sC]) rfl (by kernel_rfl) (List.Mem.head _) (by kernel_rfl) (by kernel_rfl) (by kernel_rfl) (by kernel_rfl) (fun _ _ _ h => h) (Or.inl ⟨by rfl, ?_⟩) hHeld ?_
          · (intro u hu; (try dsimp only at hu); go_split_ands; go_simp)
          (try simp only [Act.put, putA, putB, putC])
          refine L2.late_free 3 (v := .pointer (some ⟨v9, 2, none⟩)) rfl (by kernel_rfl) (by kernel_rfl) (by kernel_rfl) (by kernel_rfl) (by kernel_rfl) (by kernel_rfl) (fun _ _ _ h => h) (Or.inl ⟨by rfl, ?_⟩) hHeld ?_
          · (intro u _; go_simp)
          (try simp only [Act.put, putA, putB, putC])
          refine L2.late_take 4 (v := .slice sO sL sC) rfl (by kernel_rfl) (List.Mem.tail _ (List.Mem.head _)) (by kernel_rfl) (by kernel_rfl) (by kernel_rfl) (by kernel_rfl) (fun _ _ _ h => h) (Or.inl ⟨by rfl, ?_⟩) hHeld ?_
          · (intro u hu; (try dsimp only at hu); go_split_ands; go_simp)
          (try simp only [Act.put, putA, putB, putC])
          refine L2.late_free 5 (v := .agg #[.bool false, .slice sO sL sC]) rfl (by kernel_rfl) (by kernel_rfl) (by kernel_rfl) (by kernel_rfl) (by kernel_rfl) (by kernel_rfl) (fun _ _ _ h => h) (Or.inl ⟨by rfl, ?_⟩) hHeld ?_
          · (intro u _; go_simp)
          (try simp only [Act.put, putA, putB, putC])
          refine L2.late_two 1 10 (by kernel_rfl) rfl rfl (fun K hK => ?t331) (fun K hK => ?t332)
          case' t331 =>
           go_simp
           have hq := wSign kW
           rw [← HCS.out] at hq
           refine hq.mono ?_
           rintro e w314 ⟨rfl, b314⟩
           clear hq kW
           replace kd := kd.below (Nat.le_refl _) b314
           have B314 : Below w213.heap.size w213 w314 := bstep B0 b314
           clear b314
           replace hHeld := KEEP _ B314
           go_wp2_with fail
           refine hK.out _ _ (L2.AllL.kept hHeld) ?_
           clear hK K
           (try simp only [Act.put, putA, putB, putC])
           refine L2.late_two 2 10 (by kernel_rfl) rfl rfl (fun K hK => ?t325) (fun K hK => ?t326)
           case' t325 =>
            go_simp
            refine (c_of (n := c) HBD.out.1 HBD.out.2.1).mono ?_
            rintro e w315 ⟨v, rfl, hv9, b315⟩
            obtain ⟨gn, go_, gl, gc, rfl, ig⟩ := hv9.see HBD.out.2.2 (by decide)
            clear hv9
            replace kd := kd.below (Nat.le_refl _) b315
            have B315 : Below w213.heap.size w213 w315 := bstep B314 b315
            clear b315
            replace hHeld := KEEP _ B315
            go_wp2_with fail
            refine hK.out _ _ (L2.AllL.kept hHeld) ?_
            clear hK K
            (try simp only [Act.put, putA, putB, putC])
            refine L2.late_two 6 10 (by kernel_rfl) rfl rfl (fun K hK => ?t320) (fun K hK => ?t321)
            case' t320 =>
             go_simp
             have idn : INum _ (.agg #[.bool false, .slice sO sL sC]) (S.den : Int) := ⟨false, sO, sL, sC, lim S.den, rfl, kd, HDL.out, by rw [val_lim]; rfl⟩
             have hq := c_new_yes ig idn HDZ.out
             rw [HT.out] at hq
             refine hq.mono ?_
             rintro e w316 ⟨v, rfl, hv9, b316⟩
             clear hq idn ig kd
             have rT := hv9.rw (HTS.out.mono (by decide))
             obtain ⟨m, d9, rfl, hm, hd9, hap⟩ := hv9
             obtain ⟨to9, tl, tc, rfl⟩ := hm.sl
             obtain ⟨tO, tL, tC, rfl⟩ := hd9.sl
             clear hm hd9 hap
             generalize decide (T.num < 0) = bT at *
             have B316 : Below w213.heap.size w213 w316 := bstep B315 b316
             clear b316
             replace hHeld := KEEP _ B316
             go_wp2_with fail
             refine hK.out _ _ (L2.AllL.kept hHeld) ?_
             clear hK K
             (try simp only [Act.put, putA, putB, putC])
             refine L2.late_free 7 (v := .tuple #[.agg #[.bool bT, .slice to9 tl tc, .slice tO tL tC], .int .i64 0]) rfl (by kernel_rfl) (by kernel_rfl) (by kernel_rfl) (by kernel_rfl) (by kernel_rfl) (by kernel_rfl) (fun _ _ _ h => h) (Or.inl ⟨by rfl, ?_⟩) hHeld ?_
             · (intro u _; go_simp)
             (try simp only [Act.put, putA, putB, putC])
             refine L2.late_free 8 (v := .agg #[.bool bT, .slice to9 tl tc, .slice tO tL tC]) rfl (by kernel_rfl) (by kernel_rfl) (by kernel_rfl) (by kernel_rfl) (by kernel_rfl) (by kernel_rfl) (fun _ _ _ h => h) (Or.inl ⟨by rfl, ?_⟩) hHeld ?_
             · (intro u _; go_simp)
             (try simp only [Act.put, putA, putB, putC])
             refine L2.late_free 9 (v := .int .i64 0) rfl (by kernel_rfl) (by kernel_rfl) (by kernel_rfl) (by kernel_rfl) (by kernel_rfl) (by kernel_rfl) (fun _ _ _ h => h) (Or.inl ⟨by rfl, ?_⟩) hHeld ?_
             · (intro u _; go_simp)
             (try simp only [Act.put, putA, putB, putC])
             refine L2.late_step 10 (by kernel_rfl) rfl (fun K hK => ?_)
             go_simp
             obtain ⟨w317, vx, hw, hv, pvx, b317, B317⟩ := new_pq B316
             rw [hw, hv]
             clear hw hv
             replace rT := rT.below b317
             clear b317
             replace hHeld := KEEP _ B317
             refine hK.out _ _ (L2.AllL.kept hHeld) ?_
             clear hK K
             (try simp only [Act.put, putA, putB, putC])
             have Bz := B317
             obtain ⟨wl, rfl⟩ : ∃ u, u = w317 := ⟨_, rfl⟩
            case' t321 =>
             go_simp
             obtain ⟨w318, vx, hw, hv, pvx, b318, B318⟩ := new_pq B315
             rw [hw, hv]
             clear hw hv
             replace kd := kd.below (Nat.le_refl _) b318
             replace ig := ig.below b318
             clear b318
             replace hHeld := KEEP _ B318
             refine hK.out _ _ (L2.AllL.kept hHeld) ?_
             clear hK K
             (try simp only [Act.put, putA, putB, putC])
             refine L2.late_step 6 (by kernel_rfl) rfl (fun K hK => ?_)
             go_simp
             have idn : INum _ (.agg #[.bool false, .slice sO sL sC]) (S.den : Int) := ⟨false, sO, sL, sC, lim S.den, rfl, kd, HDL.out, by rw [val_lim]; rfl⟩
             have hq := c_new_yes ig idn HDZ.out
             rw [HT.out] at hq
             refine hq.mono ?_
             rintro e w319 ⟨v, rfl, hv9, b319⟩
             clear hq idn ig kd
             have rT := hv9.rw (HTS.out.mono (by decide))
             obtain ⟨m, d9, rfl, hm, hd9, hap⟩ := hv9
             obtain ⟨to9, tl, tc, rfl⟩ := hm.sl
             obtain ⟨tO, tL, tC, rfl⟩ := hd9.sl
             clear hm hd9 hap
             generalize decide (T.num < 0) = bT at *
             replace pvx := pvx.below b319
             have B319 : Below w213.heap.size w213 w319 := bstep B318 b319
             clear b319
             replace hHeld := KEEP _ B319
             go_wp2_with fail
             refine hK.out _ _ (L2.AllL.kept hHeld) ?_
             clear hK K
             (try simp only [Act.put, putA, putB, putC])
             refine L2.late_free 7 (v := .tuple #[.agg #[.bool bT, .slice to9 tl tc, .slice tO tL tC], .int .i64 0]) rfl (by kernel_rfl) (by kernel_rfl) (by kernel_rfl) (by kernel_rfl) (by kernel_rfl) (by kernel_rfl) (fun _ _ _ h => h) (Or.inl ⟨by rfl, ?_⟩) hHeld ?_
             · (intro u _; go_simp)
             (try simp only [Act.put, putA, putB, putC])
             refine L2.late_free 8 (v := .agg #[.bool bT, .slice to9 tl tc, .slice tO tL tC]) rfl (by kernel_rfl) (by kernel_rfl) (by kernel_rfl) (by kernel_rfl) (by kernel_rfl) (by kernel_rfl) (fun _ _ _ h => h) (Or.inl ⟨by rfl, ?_⟩) hHeld ?_
             · (intro u _; go_simp)
             (try simp only [Act.put, putA, putB, putC])
             refine L2.late_free 9 (v := .int .i64 0) rfl (by kernel_rfl) (by kernel_rfl) (by kernel_rfl) (by kernel_rfl) (by kernel_rfl) (by kernel_rfl) (fun _ _ _ h => h) (Or.inl ⟨by rfl, ?_⟩) hHeld ?_
             · (intro u _; go_simp)
             (try simp only [Act.put, putA, putB, putC])
             have Bz := B319
             obtain ⟨wl, rfl⟩ : ∃ u, u = w319 := ⟨_, rfl⟩
           case' t326 =>
            go_simp
            obtain ⟨w322, vx, hw, hv, pvx, b322, B322⟩ := new_pq B314
            rw [hw, hv]
            clear hw hv
            replace kd := kd.below (Nat.le_refl _) b322
            clear b322
            replace hHeld := KEEP _ B322
            refine hK.out _ _ (L2.AllL.kept hHeld) ?_
            clear hK K
            (try simp only [Act.put, putA, putB, putC])
            refine L2.late_step 2 (by kernel_rfl) rfl (fun K hK => ?_)
            go_simp
            refine (c_of (n := c) HBD.out.1 HBD.out.2.1).mono ?_
            rintro e w323 ⟨v, rfl, hv9, b323⟩
            obtain ⟨gn, go_, gl, gc, rfl, ig⟩ := hv9.see HBD.out.2.2 (by decide)
            clear hv9
            replace kd := kd.below (Nat.le_refl _) b323
            replace pvx := pvx.below b323
            have B323 : Below w213.heap.size w213 w323 := bstep B322 b323
            clear b323
            replace hHeld := KEEP _ B323
            go_wp2_with fail
            refine hK.out _ _ (L2.AllL.kept hHeld) ?_
            clear hK K
            (try simp only [Act.put, putA, putB, putC])
            refine L2.late_step 6 (by kernel_rfl) rfl (fun K hK => ?_)
            go_simp
            have idn : INum _ (.agg #[.bool false, .slice sO sL sC]) (S.den : Int) := ⟨false, sO, sL, sC, lim S.den, rfl, kd, HDL.out, by rw [val_lim]; rfl⟩
            have hq := c_new_yes ig idn HDZ.out
            rw [HT.out] at hq
            refine hq.mono ?_
            rintro e w324 ⟨v, rfl, hv9, b324⟩
            clear hq idn ig kd
            have rT := hv9.rw (HTS.out.mono (by decide))
            obtain ⟨m, d9, rfl, hm, hd9, hap⟩ := hv9
            obtain ⟨to9, tl, tc, rfl⟩ := hm.sl
            obtain ⟨tO, tL, tC, rfl⟩ := hd9.sl
            clear hm hd9 hap
            generalize decide (T.num < 0) = bT at *
            replace pvx := pvx.below b324
            have B324 : Below w213.heap.size w213 w324 := bstep B323 b324
            clear b324
            replace hHeld := KEEP _ B324
            go_wp2_with fail
            refine hK.out _ _ (L2.AllL.kept hHeld) ?_
            clear hK K
            (try simp only [Act.put, putA, putB, putC])
            refine L2.late_free 7 (v := .tuple #[.agg #[.bool bT, .slice to9 tl tc, .slice tO tL tC], .int .i64 0]) rfl (by kernel_rfl) (by kernel_rfl) (by kernel_rfl) (by kernel_rfl) (by kernel_rfl) (by kernel_rfl) (fun _ _ _ h => h) (Or.inl ⟨by rfl, ?_⟩) hHeld ?_
            · (intro u _; go_simp)
            (try simp only [Act.put, putA, putB, putC])
            refine L2.late_free 8 (v := .agg #[.bool bT, .slice to9 tl tc, .slice tO tL tC]) rfl (by kernel_rfl) (by kernel_rfl) (by kernel_rfl) (by kernel_rfl) (by kernel_rfl) (by kernel_rfl) (fun _ _ _ h => h) (Or.inl ⟨by rfl, ?_⟩) hHeld ?_
            · (intro u _; go_simp)
            (try simp only [Act.put, putA, putB, putC])
            refine L2.late_free 9 (v := .int .i64 0) rfl (by kernel_rfl) (by kernel_rfl) (by kernel_rfl) (by kernel_rfl) (by kernel_rfl) (by kernel_rfl) (fun _ _ _ h => h) (Or.inl ⟨by rfl, ?_⟩) hHeld ?_
            · (intro u _; go_simp)
            (try simp only [Act.put, putA, putB, putC])
            have Bz := B324
            obtain ⟨wl, rfl⟩ : ∃ u, u = w324 := ⟨_, rfl⟩
          case' t332 =>
           go_simp
           obtain ⟨w327, vx, hw, hv, pvx, b327, B327⟩ := new_pq B0
           rw [hw, hv]
           clear hw hv
           replace kW := kW.below b327
           replace kd := kd.below (Nat.le_refl _) b327
           clear b327
           replace hHeld := KEEP _ B327
           refine hK.out _ _ (L2.AllL.kept hHeld) ?_
           clear hK K
           (try simp only [Act.put, putA, putB, putC])
           refine L2.late_step 1 (by kernel_rfl) rfl (fun K hK => ?_)
           go_simp
           have hq := wSign kW
           rw [← HCS.out] at hq
           refine hq.mono ?_
           rintro e w328 ⟨rfl, b328⟩
           clear hq kW
           replace kd := kd.below (Nat.le_refl _) b328
           replace pvx := pvx.below b328
           have B328 : Below w213.heap.size w213 w328 := bstep B327 b328
           clear b328
           replace hHeld := KEEP _ B328
           go_wp2_with fail
           refine hK.out _ _ (L2.AllL.kept hHeld) ?_
           clear hK K
           (try simp only [Act.put, putA, putB, putC])
           refine L2.late_step 2 (by kernel_rfl) rfl (fun K hK => ?_)
           go_simp
           refine (c_of (n := c) HBD.out.1 HBD.out.2.1).mono ?_
           rintro e w329 ⟨v, rfl, hv9, b329⟩
           obtain ⟨gn, go_, gl, gc, rfl, ig⟩ := hv9.see HBD.out.2.2 (by decide)
           clear hv9
           replace kd := kd.below (Nat.le_refl _) b329
           replace pvx := pvx.below b329
           have B329 : Below w213.heap.size w213 w329 := bstep B328 b329
           clear b329
           replace hHeld := KEEP _ B329
           go_wp2_with fail
           refine hK.out _ _ (L2.AllL.kept hHeld) ?_
           clear hK K
           (try simp only [Act.put, putA, putB, putC])
           refine L2.late_step 6 (by kernel_rfl) rfl (fun K hK => ?_)
           go_simp
           have idn : INum _ (.agg #[.bool false, .slice sO sL sC]) (S.den : Int) := ⟨false, sO, sL, sC, lim S.den, rfl, kd, HDL.out, by rw [val_lim]; rfl⟩
           have hq := c_new_yes ig idn HDZ.out
           rw [HT.out] at hq
           refine hq.mono ?_
           rintro e w330 ⟨v, rfl, hv9, b330⟩
           clear hq idn ig kd
           have rT := hv9.rw (HTS.out.mono (by decide))
           obtain ⟨m, d9, rfl, hm, hd9, hap⟩ := hv9
           obtain ⟨to9, tl, tc, rfl⟩ := hm.sl
           obtain ⟨tO, tL, tC, rfl⟩ := hd9.sl
           clear hm hd9 hap
           generalize decide (T.num < 0) = bT at *
           replace pvx := pvx.below b330
           have B330 : Below w213.heap.size w213 w330 := bstep B329 b330
           clear b330
           replace hHeld := KEEP _ B330
           go_wp2_with fail
           refine hK.out _ _ (L2.AllL.kept hHeld) ?_
           clear hK K
           (try simp only [Act.put, putA, putB, putC])
           refine L2.late_free 7 (v := .tuple #[.agg #[.bool bT, .slice to9 tl tc, .slice tO tL tC], .int .i64 0]) rfl (by kernel_rfl) (by kernel_rfl) (by kernel_rfl) (by kernel_rfl) (by kernel_rfl) (by kernel_rfl) (fun _ _ _ h => h) (Or.inl ⟨by rfl, ?_⟩) hHeld ?_
           · (intro u _; go_simp)
           (try simp only [Act.put, putA, putB, putC])
           refine L2.late_free 8 (v := .agg #[.bool bT, .slice to9 tl tc, .slice tO tL tC]) rfl (by kernel_rfl) (by kernel_rfl) (by kernel_rfl) (by kernel_rfl) (by kernel_rfl) (by kernel_rfl) (fun _ _ _ h => h) (Or.inl ⟨by rfl, ?_⟩) hHeld ?_
           · (intro u _; go_simp)
           (try simp only [Act.put, putA, putB, putC])
           refine L2.late_free 9 (v := .int .i64 0) rfl (by kernel_rfl) (by kernel_rfl) (by kernel_rfl) (by kernel_rfl) (by kernel_rfl) (by kernel_rfl) (fun _ _ _ h => h) (Or.inl ⟨by rfl, ?_⟩) hHeld ?_
           · (intro u _; go_simp)
           (try simp only [Act.put, putA, putB, putC])
           have Bz := B330
           obtain ⟨wl, rfl⟩ : ∃ u, u = w330 := ⟨_, rfl⟩
          all_goals
            have HPQ : Hid _ := pq_end pvx rT Bz
            obtain ⟨y0, y1, y2⟩ := pvx.c.cells
            have f0 := pvx.c.thaw 0
            have f1 := pvx.c.thaw 1
            have f2 := pvx.c.thaw 2
            clear pvx rT Bz KEEP
            refine L2.late_step 11 (by kernel_rfl) rfl (fun K hK => ?_)
            go_simp
            refine hK.out _ _ ⟨kpt 1, kpt 11, trivial⟩ ?_
            clear hK K
            (try simp only [Act.put, putA, putB, putC])
            refine L2.late_step 12 (by kernel_rfl) rfl (fun K hK => ?_)
            go_simp
            refine hK.out _ _ ⟨kpt 1, kpt 11, trivial⟩ ?_
            clear hK K
            (try simp only [Act.put, putA, putB, putC])
            refine L2.late_done (by kernel_rfl) ?_ _
            clear hHeld y0 y1 y2 f0 f1 f2
            go_wp2_with fail
            go_meet
            exact ⟨_, _, _, _, _, _, _, _, rfl, rfl, HPQ.out⟩
        case rest =>
          obtain ⟨v16, nT, to9, tl, tc, tO, tL, tC, rfl, rfl, qT, rT, b⟩ := hcut
          replace hX := hX.below b
          replace hY := hY.below b
          replace hv := hv.below b
          replace hdn := hdn.below (Nat.le_refl _) b
          replace hW := hW.below b
          replace hb0 := bstep hb0 b
          replace qx := qx.below b
          replace qy := qy.below b
          replace qs := qs.below b
          replace hb := bstep hb b
          replace hsz := Nat.lt_of_lt_of_le hsz b.size
          clear b
          obtain ⟨cqx0, cqx1, cqx2⟩ := qx.cells
          obtain ⟨cqy0, cqy1, cqy2⟩ := qy.cells
          obtain ⟨cqs0, cqs1, cqs2⟩ := qs.cells
          obtain ⟨cqT0, cqT1, cqT2⟩ := qT.cells
          go_wp2_with fail
          clear cqx0 cqx1 cqx2 cqy0 cqy1 cqy2 cqs0 cqs1 cqs2 cqT0 cqT1 cqT2
          have hq := wSub hW rT
          obtain ⟨R, hR⟩ : ∃ R, R = S - T := ⟨_, rfl⟩
          have HRS : Hid (RSz R 40) := by show RSz _ _; rw [hR]; exact (HSS.out.sub' HTS.out).mono (by decide)
          have HNR : Hid (cmpQ R B < 0 ∨ 0 < cmpQ R A) := by
            refine sp_nearer HAB.out R S HSP.out (S.num - c) ?_ ?_
            · rcases HCB.out with h | h <;> omega
            · rw [hR, ← HT.out]
              conv => lhs; lhs; rw [← Rat.num_divInt_den S]
              rw [Rat.divInt_sub_divInt _ _ HDZ.out HDZ.out, ← Int.sub_mul]
              rw [Rat.divInt_mul_right HDZ.out]
          rw [← hR] at hq
          clear hR
          refine (hq).mono ?_
          rintro e w433 ⟨v, rfl, hv9, b⟩
          clear hq
          have rR := hv9.rw HRS.out
          obtain ⟨m, d9, rfl, hm, hd9, hap⟩ := hv9
          obtain ⟨ko, kl, kc, rfl⟩ := hm.sl
          obtain ⟨kO, kL, kC, rfl⟩ := hd9.sl
          clear hm hd9 hap
          generalize decide (R.num < 0) = bR at *
          replace hX := hX.below b
          replace hY := hY.below b
          replace hv := hv.below b
          replace hdn := hdn.below (Nat.le_refl _) b
          replace hW := hW.below b
          replace hb0 := bstep hb0 b
          replace rT := rT.below b
          replace qx := qx.below b
          replace qy := qy.below b
          replace qs := qs.below b
          replace qT := qT.below b
          replace hb := bstep hb b
          replace hsz := Nat.lt_of_lt_of_le hsz b.size
          clear b
          have hq0 : QCell (w433.alloc (.cells #[.bool false, .slice none 0 0, .slice none 0 0] 27)) w433.heap.size false (.slice none 0 0) (.slice none 0 0) := qcell_new _ rfl
          obtain ⟨W434, hW434⟩ : ∃ W, W = w433.alloc (.cells #[.bool bR, .slice ko kl kc, .slice kO kL kC] 27) := ⟨_, rfl⟩
          have qn : QCell W434 (w433.heap.size) bR (.slice ko kl kc) (.slice kO kL kC) := by rw [hW434]; exact qcell_new _ rfl
          have b : Below w433.heap.size w433 W434 := by rw [hW434]; exact belowA _ _
          obtain ⟨z0, z1, z2⟩ := hq0.cells
          have t0 := hq0.thaw 0
          have t1 := hq0.thaw 1
          have t2 := hq0.thaw 2
          clear hq0
          replace hX := hX.below b
          replace hY := hY.below b
          replace hv := hv.below b
          replace hdn := hdn.below (Nat.le_refl _) b
          replace hW := hW.below b
          replace hb0 := bstep hb0 b
          replace rT := rT.below b
          replace rR := rR.below b
          replace qx := qx.below b
          replace qy := qy.below b
          replace qs := qs.below b
          replace qT := qT.below b
          replace hb := bstep hb b
          replace hsz := Nat.lt_of_lt_of_le hsz b.size
          clear b
          have rqx0 : (w433.alloc (.cells #[.bool bR, .slice ko kl kc, .slice kO kL kC] 27)).cell? ⟨v4, 0, none⟩ = some (.bool nb) := by rw [← hW434]; exact qx.cells.1
          have rqx1 : (w433.alloc (.cells #[.bool bR, .slice ko kl kc, .slice kO kL kC] 27)).cell? ⟨v4, 1, none⟩ = some (.slice bo bl2 bc) := by rw [← hW434]; exact qx.cells.2.1
          have rqx2 : (w433.alloc (.cells #[.bool bR, .slice ko kl kc, .slice kO kL kC] 27)).cell? ⟨v4, 2, none⟩ = some (.slice bO bL2 bC) := by rw [← hW434]; exact qx.cells.2.2
          have rqy0 : (w433.alloc (.cells #[.bool bR, .slice ko kl kc, .slice kO kL kC] 27)).cell? ⟨v6, 0, none⟩ = some (.bool na) := by rw [← hW434]; exact qy.cells.1
          have rqy1 : (w433.alloc (.cells #[.bool bR, .slice ko kl kc, .slice kO kL kC] 27)).cell? ⟨v6, 1, none⟩ = some (.slice ao al2 ac) := by rw [← hW434]; exact qy.cells.2.1
          have rqy2 : (w433.alloc (.cells #[.bool bR, .slice ko kl kc, .slice kO kL kC] 27)).cell? ⟨v6, 2, none⟩ = some (.slice aO aL2 aC) := by rw [← hW434]; exact qy.cells.2.2
          have rqs0 : (w433.alloc (.cells #[.bool bR, .slice ko kl kc, .slice kO kL kC] 27)).cell? ⟨v9, 0, none⟩ = some (.bool bs) := by rw [← hW434]; exact qs.cells.1
          have rqs1 : (w433.alloc (.cells #[.bool bR, .slice ko kl kc, .slice kO kL kC] 27)).cell? ⟨v9, 1, none⟩ = some (.slice so sl sc) := by rw [← hW434]; exact qs.cells.2.1
          have rqs2 : (w433.alloc (.cells #[.bool bR, .slice ko kl kc, .slice kO kL kC] 27)).cell? ⟨v9, 2, none⟩ = some (.slice sO sL sC) := by rw [← hW434]; exact qs.cells.2.2
          have rqT0 : (w433.alloc (.cells #[.bool bR, .slice ko kl kc, .slice kO kL kC] 27)).cell? ⟨v16, 0, none⟩ = some (.bool nT) := by rw [← hW434]; exact qT.cells.1
          have rqT1 : (w433.alloc (.cells #[.bool bR, .slice ko kl kc, .slice kO kL kC] 27)).cell? ⟨v16, 1, none⟩ = some (.slice to9 tl tc) := by rw [← hW434]; exact qT.cells.2.1
          have rqT2 : (w433.alloc (.cells #[.bool bR, .slice ko kl kc, .slice kO kL kC] 27)).cell? ⟨v16, 2, none⟩ = some (.slice tO tL tC) := by rw [← hW434]; exact qT.cells.2.2
          have rqn0 : (w433.alloc (.cells #[.bool bR, .slice ko kl kc, .slice kO kL kC] 27)).cell? ⟨w433.heap.size, 0, none⟩ = some (.bool bR) := by rw [← hW434]; exact qn.cells.1
          have rqn1 : (w433.alloc (.cells #[.bool bR, .slice ko kl kc, .slice kO kL kC] 27)).cell? ⟨w433.heap.size, 1, none⟩ = some (.slice ko kl kc) := by rw [← hW434]; exact qn.cells.2.1
          have rqn2 : (w433.alloc (.cells #[.bool bR, .slice ko kl kc, .slice kO kL kC] 27)).cell? ⟨w433.heap.size, 2, none⟩ = some (.slice kO kL kC) := by rw [← hW434]; exact qn.cells.2.2
          obtain ⟨v434, hv434⟩ : ∃ v, v = w433.heap.size := ⟨_, rfl⟩
          rw [← hv434] at qn
          have HW434 : Hid (W434 = w433.alloc (.cells #[.bool bR, .slice ko kl kc, .slice kO kL kC] 27)) := hW434
          have Hv434 : Hid (v434 = w433.heap.size) := hv434
          clear hW434 hv434
          go_wp2_with fail
          rw [← HW434.out, ← Hv434.out]
          clear HW434 Hv434 z0 t0 z1 t1 z2 t2 rqx0 rqx1 rqx2 rqy0 rqy1 rqy2 rqs0 rqs1 rqs2 rqT0 rqT1 rqT2 rqn0 rqn1 rqn2 
          by_cases h8 : cmpQ R B < 0
          · have hq := wCmp rR hY
            obtain ⟨c9, hc⟩ : ∃ c, c = cmpQ R B := ⟨_, rfl⟩
            have hc9 : c9 < 0 := by rw [hc]; omega
            rw [← hc] at hq
            clear hc
            refine (hq).mono ?_
            rintro e w535 ⟨rfl, b⟩
            clear hq
            replace hX := hX.below b
            replace hY := hY.below b
            replace hv := hv.below b
            replace hdn := hdn.below (Nat.le_refl _) b
            replace hW := hW.below b
            replace hb0 := bstep hb0 b
            replace rT := rT.below b
            replace rR := rR.below b
            replace qx := qx.below b
            replace qy := qy.below b
            replace qs := qs.below b
            replace qT := qT.below b
            replace qn := qn.below b
            replace hb := bstep hb b
            replace hsz := Nat.lt_of_lt_of_le hsz b.size
            clear b
            have HE : Hid (Below w.heap.size w w535) := hb
            clear hb hsz qx qy qs qT qn hX hY hv hdn hW hb0 rT rR
            go_wp2
            go_ret
            exact ⟨rfl, HE.out⟩
          · have hq := wCmp rR hY
            obtain ⟨c9, hc⟩ : ∃ c, c = cmpQ R B := ⟨_, rfl⟩
            have hc9 : ¬ c9 < 0 := by rw [hc]; omega
            rw [← hc] at hq
            clear hc
            refine (hq).mono ?_
            rintro e w535 ⟨rfl, b⟩
            clear hq
            replace hX := hX.below b
            replace hY := hY.below b
            replace hv := hv.below b
            replace hdn := hdn.below (Nat.le_refl _) b
            replace hW := hW.below b
            replace hb0 := bstep hb0 b
            replace rT := rT.below b
            replace rR := rR.below b
            replace qx := qx.below b
            replace qy := qy.below b
            replace qs := qs.below b
            replace qT := qT.below b
            replace qn := qn.below b
            replace hb := bstep hb b
            replace hsz := Nat.lt_of_lt_of_le hsz b.size
            clear b
            obtain ⟨cqx0, cqx1, cqx2⟩ := qx.cells
            obtain ⟨cqy0, cqy1, cqy2⟩ := qy.cells
            obtain ⟨cqs0, cqs1, cqs2⟩ := qs.cells
            obtain ⟨cqT0, cqT1, cqT2⟩ := qT.cells
            obtain ⟨cqn0, cqn1, cqn2⟩ := qn.cells
            go_wp2_with fail
            clear cqx0 cqx1 cqx2 cqy0 cqy1 cqy2 cqs0 cqs1 cqs2 cqT0 cqT1 cqT2 cqn0 cqn1 cqn2
            have h9 : 0 < cmpQ R A := HNR.out.resolve_left (by omega)
            have hq := wCmp rR hX
            obtain ⟨c7, hc⟩ : ∃ c, c = cmpQ R A := ⟨_, rfl⟩
            have hc7 : 0 < c7 := by rw [hc]; omega
            rw [← hc] at hq
            clear hc
            refine (hq).mono ?_
            rintro e w536 ⟨rfl, b⟩
            clear hq
            replace hX := hX.below b
            replace hY := hY.below b
            replace hv := hv.below b
            replace hdn := hdn.below (Nat.le_refl _) b
            replace hW := hW.below b
            replace hb0 := bstep hb0 b
            replace rT := rT.below b
            replace rR := rR.below b
            replace qx := qx.below b
            replace qy := qy.below b
            replace qs := qs.below b
            replace qT := qT.below b
            replace qn := qn.below b
            replace hb := bstep hb b
            replace hsz := Nat.lt_of_lt_of_le hsz b.size
            clear b
            have HE : Hid (Below w.heap.size w w536) := hb
            clear hb hsz qx qy qs qT qn hX hY hv hdn hW hb0 rT rR
            go_wp2
            go_ret
            exact ⟨rfl, HE.out⟩
theorem fracLeast_top (na : Bool) (ao aO : Option Addr) (al ac aL aC : Nat) (xa ya : List Nat) (nb : Bool) (bo bO : Option Addr) (bl bc bL bC : Nat) (xb yb : List Nat) (w : World) (ua : Num w (.slice ao al ac) xa) (va : Num w (.slice aO aL aC) ya) (ub : Num w (.slice bo bl bc) xb) (vb : Num w (.slice bO bL bC) yb) :
    Calls Tryd.prog 4 #[.agg #[.bool na, .slice ao al ac, .slice aO aL aC], .agg #[.bool nb, .slice bo bl bc, .slice bO bL bC]] w fun e w' => e = .returned (.bool true) ∧ Below w.heap.size w w' := by
  by_cases h : 0 < cmpQ (rq (zv na (val (xa.take (min al 3)))) (val (ya.take (min aL 3)))) (rq (zv nb (val (xb.take (min bl 3)))) (val (yb.take (min bL 3))))
  · exact fracLeast_yes na ao aO al ac aL aC xa ya nb bo bO bl bc bL bC xb yb w ua va ub vb true ⟨fun _ => rfl, fun _ => h⟩ rfl
  · exact fracLeast_no na ao aO al ac aL aC xa ya nb bo bO bl bc bL bC xb yb w ua va ub vb false ⟨fun h2 => absurd h2 h, fun h2 => by cases h2⟩ rfl
end Go.Proofs.YtdfmmaehmngkhaaDoor
