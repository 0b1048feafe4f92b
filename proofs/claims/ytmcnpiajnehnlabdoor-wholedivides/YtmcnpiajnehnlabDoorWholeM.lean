/-
  Proved here: what Bezout of package whole answers.
-/
import Derived.Test.YtmcnpiajnehnlabDoorWholeL
namespace Go.Proofs.YtmcnpiajnehnlabDoor
open Go.RowKit
attribute [local go_sem ↓] Go.wp_at_zero Go.wp_at_succ

theorem results_tcc {P : Program} {fn : Func} {p q u : Tmp} {ty : TypeId} (h : fn.results = #[.tmp u, .cell p ty, .cell q ty]) (tmps : Array Value) (w : World) (g g2 : Nat) (t t2 : TypeId) (cs cs2 : Array Value) (fr fr2 : Nat × Nat) (d : TypeDesc)
    (hp : tmps.getD p undef = .pointer (some ⟨g, 0, none⟩)) (hq : tmps.getD q undef = .pointer (some ⟨g2, 0, none⟩)) (hg : w.heap[g]? = some (.cells cs t fr)) (hg2 : w.heap[g2]? = some (.cells cs2 t2 fr2))
    (hu : P.underlying ty = some d) (hd : (match d with | .struct _ | .array _ _ => true | _ => false) = true) (hi : (P.info? ty).map (·.size) = some cs.size) (hi2 : (P.info? ty).map (·.size) = some cs2.size) :
    (results fn tmps).run P w = .ok (.tuple #[tmps.getD u undef, .agg cs, .agg cs2]) w := by
  have hp' : tmps[p]?.getD undef = .pointer (some ⟨g, 0, none⟩) := by simpa using hp
  have hq' : tmps[q]?.getD undef = .pointer (some ⟨g2, 0, none⟩) := by simpa using hq
  simp [results, h, hp', hq', asAddr, run_loadVar_row w g t ty cs fr d hg hu hd hi, run_loadVar_row w g2 t2 ty cs2 fr2 d hg2 hu hd hi2]
section
variable {w : World} {p q : Nat} {v0 v1 v2 v3 v4 v5 u0 u1 u2 u3 u4 u5 : Value}

theorem INum.off12 {n : Bool} {m : Value} {z : Int} (h : INum w (.agg #[.bool n, m]) z) (ho : OffR m p q) : INum ((((((((((((w.setCell ⟨p, 0, none⟩ v0).setCell ⟨p, 1, none⟩ v1).setCell ⟨p, 2, none⟩ v2).setCell ⟨p, 3, none⟩ v3).setCell ⟨p, 4, none⟩ v4).setCell ⟨p, 5, none⟩ v5).setCell ⟨q, 0, none⟩ u0).setCell ⟨q, 1, none⟩ u1).setCell ⟨q, 2, none⟩ u2).setCell ⟨q, 3, none⟩ u3).setCell ⟨q, 4, none⟩ u4).setCell ⟨q, 5, none⟩ u5) (.agg #[.bool n, m]) z :=
  ((((((((((((h.off ho (Or.inl rfl)).off ho (Or.inl rfl)).off ho (Or.inl rfl)).off ho (Or.inl rfl)).off ho (Or.inl rfl)).off ho (Or.inl rfl)).off ho (Or.inr rfl)).off ho (Or.inr rfl)).off ho (Or.inr rfl)).off ho (Or.inr rfl)).off ho (Or.inr rfl)).off ho (Or.inr rfl))
theorem ICell.off12 {g : Nat} {n : Bool} {m : Value} (h : ICell w g n m) (hp : g ≠ p) (hq : g ≠ q) : ICell ((((((((((((w.setCell ⟨p, 0, none⟩ v0).setCell ⟨p, 1, none⟩ v1).setCell ⟨p, 2, none⟩ v2).setCell ⟨p, 3, none⟩ v3).setCell ⟨p, 4, none⟩ v4).setCell ⟨p, 5, none⟩ v5).setCell ⟨q, 0, none⟩ u0).setCell ⟨q, 1, none⟩ u1).setCell ⟨q, 2, none⟩ u2).setCell ⟨q, 3, none⟩ u3).setCell ⟨q, 4, none⟩ u4).setCell ⟨q, 5, none⟩ u5) g n m :=
  (((((((((((h.other hp _ _).other hp _ _).other hp _ _).other hp _ _).other hp _ _).other hp _ _).other hq _ _).other hq _ _).other hq _ _).other hq _ _).other hq _ _).other hq _ _
theorem below12 {w0 : World} (hb : Below w0.heap.size w0 w) (hp : w0.heap.size ≤ p) (hq : w0.heap.size ≤ q) : Below w0.heap.size w0 ((((((((((((w.setCell ⟨p, 0, none⟩ v0).setCell ⟨p, 1, none⟩ v1).setCell ⟨p, 2, none⟩ v2).setCell ⟨p, 3, none⟩ v3).setCell ⟨p, 4, none⟩ v4).setCell ⟨p, 5, none⟩ v5).setCell ⟨q, 0, none⟩ u0).setCell ⟨q, 1, none⟩ u1).setCell ⟨q, 2, none⟩ u2).setCell ⟨q, 3, none⟩ u3).setCell ⟨q, 4, none⟩ u4).setCell ⟨q, 5, none⟩ u5) := row_below (row_below hb hp) hq
end
theorem two_rows {w : World} {p q : Nat} {a0 a1 a2 b0 b1 b2 k0 k1 k2 j0 j1 j2 : Bool} {x0 x1 x2 y0 y1 y2 v1 v3 v5 u1 u3 u5 : Value} (h : RCell w p a0 x0 a1 x1 a2 x2) (h2 : RCell w q b0 y0 b1 y1 b2 y2) (hne : p ≠ q) :
    RCell ((((((((((((w.setCell ⟨p, 0, none⟩ (.bool k0)).setCell ⟨p, 1, none⟩ v1).setCell ⟨p, 2, none⟩ (.bool k1)).setCell ⟨p, 3, none⟩ v3).setCell ⟨p, 4, none⟩ (.bool k2)).setCell ⟨p, 5, none⟩ v5).setCell ⟨q, 0, none⟩ (.bool j0)).setCell ⟨q, 1, none⟩ u1).setCell ⟨q, 2, none⟩ (.bool j1)).setCell ⟨q, 3, none⟩ u3).setCell ⟨q, 4, none⟩ (.bool j2)).setCell ⟨q, 5, none⟩ u5) p k0 v1 k1 v3 k2 v5 ∧ RCell ((((((((((((w.setCell ⟨p, 0, none⟩ (.bool k0)).setCell ⟨p, 1, none⟩ v1).setCell ⟨p, 2, none⟩ (.bool k1)).setCell ⟨p, 3, none⟩ v3).setCell ⟨p, 4, none⟩ (.bool k2)).setCell ⟨p, 5, none⟩ v5).setCell ⟨q, 0, none⟩ (.bool j0)).setCell ⟨q, 1, none⟩ u1).setCell ⟨q, 2, none⟩ (.bool j1)).setCell ⟨q, 3, none⟩ u3).setCell ⟨q, 4, none⟩ (.bool j2)).setCell ⟨q, 5, none⟩ u5) q j0 u1 j1 u3 j2 u5 :=
  ⟨((((((h.write k0 v1 k1 v3 k2 v5).other hne _ _).other hne _ _).other hne _ _).other hne _ _).other hne _ _).other hne _ _, (((((((h2.other (Ne.symm hne) _ _).other (Ne.symm hne) _ _).other (Ne.symm hne) _ _).other (Ne.symm hne) _ _).other (Ne.symm hne) _ _).other (Ne.symm hne) _ _).write j0 u1 j1 u3 j2 u5)⟩
/-- A number that may lie in a row: it can be read, and lies away. -/
def NumR (w : World) (B p q : Nat) (n : Bool) (m : Value) (z : Int) : Prop := INum w (.agg #[.bool n, m]) z ∧ OffR m p q ∧ Fr (.agg #[.bool n, m]) B
theorem NumR.below {w w' : World} {B p q : Nat} {n : Bool} {m : Value} {z : Int} (h : NumR w B p q n m z) (hb : Below w.heap.size w w') : NumR w' B p q n m z := ⟨h.1.below hb, h.2⟩
theorem IOwn.numR {C B p q : Nat} {w : World} {v : Value} {z : Int} (h : IOwn C w v z) (hB : B ≤ C) (hp : p < C ∨ w.heap.size ≤ p) (hq : q < C ∨ w.heap.size ≤ q) {L : Nat} (hs : Sz z L) (hL : L ≤ 1000000) : ∃ n ao l c, v = .agg #[.bool n, .slice ao l c] ∧ NumR w B p q n (.slice ao l c) z := by
  have hi := h.num hs hL
  obtain ⟨m, rfl, ho⟩ := h
  obtain ⟨ao, l, c, rfl⟩ := ho.sl
  exact ⟨_, ao, l, c, rfl, hi, OffR.gen ho hp hq, Fr.of_own ho hB⟩
theorem Away.numR {B p q : Nat} {w : World} {n : Bool} {m : Value} {z : Int} (h : Away w q (.agg #[.bool n, m]) z) (hB : B ≤ q) (hp : p ≤ q) : NumR w B p q n m z := by
  have hi := h.num
  obtain ⟨n', m', xs, e, ho, _, _⟩ := h
  simp only [Value.agg.injEq, Array.mk.injEq, List.cons.injEq, Value.bool.injEq, and_true] at e
  obtain ⟨rfl, rfl⟩ := e
  exact ⟨hi, OffR.gen ho (by omega) (by omega), Fr.of_own ho (by omega)⟩
/-- A row of three numbers in its block. -/
def RowAt (w : World) (B p q g : Nat) (r s t : Int) : Prop := ∃ n0 o0 l0 c0 n1 o1 l1 c1 n2 o2 l2 c2, RCell w g n0 (.slice o0 l0 c0) n1 (.slice o1 l1 c1) n2 (.slice o2 l2 c2) ∧ NumR w B p q n0 (.slice o0 l0 c0) r ∧ NumR w B p q n1 (.slice o1 l1 c1) s ∧ NumR w B p q n2 (.slice o2 l2 c2) t
theorem RowAt.below {w w' : World} {B p q g : Nat} {r s t : Int} (h : RowAt w B p q g r s t) (hb : Below w.heap.size w w') : RowAt w' B p q g r s t := by
  obtain ⟨n0, o0, l0, c0, n1, o1, l1, c1, n2, o2, l2, c2, h0, h1, h2, h3⟩ := h
  exact ⟨_, _, _, _, _, _, _, _, _, _, _, _, h0.below hb, h1.below hb, h2.below hb, h3.below hb⟩
open Classical in
/-- The size of a row's first number. -/
noncomputable def rowV (w : World) (g : Nat) : Nat := match w.cell? ⟨g, 1, none⟩ with | some m => valAt w m | none => 0
theorem rowV_eq {w : World} {B p q g : Nat} {r s t : Int} (h : RowAt w B p q g r s t) : rowV w g = r.natAbs := by
  obtain ⟨n0, o0, l0, c0, n1, o1, l1, c1, n2, o2, l2, c2, h0, h1, _⟩ := h
  unfold rowV
  rw [h0.cells.2.1]
  obtain ⟨xs, hn, _, hv, _⟩ := h1.1.abs
  show valAt w _ = _
  rw [valAt_eq hn, hv]
/-- What Bezout leaves. -/
def BEnd (w : World) (x y : Int) (b : Int × Int × Int) (e : Ending) (w' : World) : Prop := ∃ mg vx vy gs, e = .returned (.tuple #[mg, vx, vy]) ∧ Num w' mg gs ∧ gs.length ≤ 1000000 ∧ val gs = b.1.natAbs ∧ INum w' vx (if x < 0 then -b.2.1 else b.2.1) ∧ INum w' vy (if y < 0 then -b.2.2 else b.2.2) ∧ Below w.heap.size w w'
/-- Where the loop stands. -/
def BInv (I : Int → Int → Int → Int → Int → Int → Prop) (BZ : Int × Int × Int) (w : World) (B g p q : Nat) (na nb : Bool) (ma mb : Value) (wr : World) : Prop :=
  ∃ r0 s0 t0 r1 s1 t1, RowAt wr B p q p r0 s0 t0 ∧ RowAt wr B p q q r1 s1 t1 ∧ I r0 s0 t0 r1 s1 t1 ∧ bz r0 s0 t0 r1 s1 t1 = BZ ∧ (ICell wr g na ma ∧ ICell wr (g + 1) nb mb ∧ ICell wr (g + 1 + 1) false (.slice none 0 0) ∧ ICell wr (g + 1 + 1 + 1) false (.slice none 0 0)) ∧ Below w.heap.size w wr ∧ q < wr.heap.size
theorem cmpZ_zero (z : Int) : cmpZ z 0 = 0 ↔ z = 0 := by
  unfold cmpZ
  repeat' split
  all_goals omega

set_option maxRecDepth 100000 in
set_option maxHeartbeats 12800000 in
theorem c_bezout {a b : Value} {x y : Int} {w : World} (ha : INum w a x) (hb' : INum w b y) (I : Int → Int → Int → Int → Int → Int → Prop) (h0 : I (x.natAbs : Int) 1 0 (y.natAbs : Int) 0 1)
    (hI : ∀ r0 s0 t0 r1 s1 t1, I r0 s0 t0 r1 s1 t1 → r1 ≠ 0 → I r1 s1 t1 (rz r0 r1) (s0 - r0.tdiv r1 * s1) (t0 - r0.tdiv r1 * t1))
    (hS : ∀ r0 s0 t0 r1 s1 t1, I r0 s0 t0 r1 s1 t1 → Sz r0 400000 ∧ Sz s0 400000 ∧ Sz t0 400000 ∧ Sz r1 400000 ∧ Sz s1 400000 ∧ Sz t1 400000) :
    Calls Tryd.prog 19 #[a, b] w fun e w' => BEnd w x y (bz x.natAbs 1 0 y.natAbs 0 1) e w' := by
  obtain ⟨BZ, hBZ⟩ : ∃ BZ, BZ = bz x.natAbs 1 0 y.natAbs 0 1 := ⟨_, rfl⟩
  have HBZ : Hid (bz x.natAbs 1 0 y.natAbs 0 1 = BZ) := hBZ.symm
  have HI : Hid (∀ r0 s0 t0 r1 s1 t1, I r0 s0 t0 r1 s1 t1 → r1 ≠ 0 → I r1 s1 t1 (rz r0 r1) (s0 - r0.tdiv r1 * s1) (t0 - r0.tdiv r1 * t1)) := hI
  have HSZ : Hid (∀ r0 s0 t0 r1 s1 t1, I r0 s0 t0 r1 s1 t1 → Sz r0 400000 ∧ Sz s0 400000 ∧ Sz t0 400000 ∧ Sz r1 400000 ∧ Sz s1 400000 ∧ Sz t1 400000) := hS
  have H0 : Hid (I (x.natAbs : Int) 1 0 (y.natAbs : Int) 0 1) := h0
  rw [← hBZ]
  clear hBZ hI hS h0
  obtain ⟨na, ao, al, ac, xa, rfl, ua, la, za⟩ := ha
  have ha : INum w (.agg #[.bool na, .slice ao al ac]) x := ⟨_, _, _, _, _, rfl, ua, la, za⟩
  clear ua la za
  obtain ⟨nb, bo, bl, bc, xb, rfl, ub, lb, zb⟩ := hb'
  have hb' : INum w (.agg #[.bool nb, .slice bo bl bc]) y := ⟨_, _, _, _, _, rfl, ub, lb, zb⟩
  clear ub lb zb
  obtain ⟨W1, hW1⟩ : ∃ W1, W1 = (((w.alloc (.cells #[.bool na, .slice ao al ac] 25)).alloc (.cells #[.bool nb, .slice bo bl bc] 25)).alloc (.cells #[.bool false, .slice none 0 0] 25)).alloc (.cells #[.bool false, .slice none 0 0] 25) := ⟨_, rfl⟩
  have q0 : ICell W1 (w.heap.size) na (.slice ao al ac) := by rw [hW1]; exact (icell_step (icell_step (icell_step (icell_new _ (by simp)))))
  have q1 : ICell W1 (w.heap.size + 1) nb (.slice bo bl bc) := by rw [hW1]; exact (icell_step (icell_step (icell_new _ (by simp))))
  have q2 : ICell W1 (w.heap.size + 1 + 1) false (.slice none 0 0) := by rw [hW1]; exact (icell_step (icell_new _ (by simp)))
  have q3 : ICell W1 (w.heap.size + 1 + 1 + 1) false (.slice none 0 0) := by rw [hW1]; exact (icell_new _ (by simp))
  have hb : Below w.heap.size w W1 := by rw [hW1]; exact bstep (bstep (bstep (belowA w _) (belowA _ _)) (belowA _ _)) (belowA _ _)
  have hsz : w.heap.size + 1 + 1 + 1 < W1.heap.size := by rw [hW1]; simp
  have ja := ha.below hb
  have jb := hb'.below hb
  have HW1 : Hid (W1 = (((w.alloc (.cells #[.bool na, .slice ao al ac] 25)).alloc (.cells #[.bool nb, .slice bo bl bc] 25)).alloc (.cells #[.bool false, .slice none 0 0] 25)).alloc (.cells #[.bool false, .slice none 0 0] 25)) := hW1
  clear hW1
  go_enter Tryd.func19, Tryd.ntmps19
  go_wp2_with fail
  rw [← HW1.out]
  clear HW1
  obtain ⟨g, hg⟩ : ∃ g, g = w.heap.size := ⟨_, rfl⟩
  rw [← hg] at q0 q1 q2 q3 hsz ⊢
  have HG : Hid (g = w.heap.size) := hg
  clear hg
  have HAB : Hid (INum w (.agg #[.bool na, .slice ao al ac]) x ∧ INum w (.agg #[.bool nb, .slice bo bl bc]) y) := ⟨ha, hb'⟩
  clear ha hb'
  have HB : Hid (g + 1 + 1 + 1 < W1.heap.size) := hsz
  obtain ⟨X, hX⟩ : ∃ X : Int, X = (x.natAbs : Int) := ⟨_, rfl⟩
  obtain ⟨Y, hY⟩ : ∃ Y : Int, Y = (y.natAbs : Int) := ⟨_, rfl⟩
  rw [← hX, ← hY] at H0 HBZ
  have sX := (HSZ.out _ _ _ _ _ _ H0.out).1
  have sY := (HSZ.out _ _ _ _ _ _ H0.out).2.2.2.1
  have HX : Hid (X = (x.natAbs : Int)) := hX
  have HY : Hid (Y = (y.natAbs : Int)) := hY
  clear hX hY
  refine (c_size ja).mono ?_
  rw [← HX.out]
  rintro e w2 ⟨v0, rfl, A0, b2⟩
  obtain ⟨m0, rfl, A0⟩ := A0
  obtain ⟨a0o, a0l, a0c, rfl⟩ := A0.sl
  replace q0 := q0.below b2
  replace q1 := q1.below b2
  replace q2 := q2.below b2
  replace q3 := q3.below b2
  replace jb := jb.below b2
  replace hb := bstep hb b2
  clear ja
  obtain ⟨an0, han0⟩ : ∃ n, n = decide (X < 0) := ⟨_, rfl⟩
  rw [← han0]
  have HN0 : Hid (an0 = decide (X < 0)) := han0
  clear han0
  go_wp2_with fail
  refine (c_of (n := 1) (by decide) (by decide)).mono ?_
  rintro e w3 ⟨v0, rfl, A1, b3⟩
  obtain ⟨m0, rfl, A1⟩ := A1
  obtain ⟨a1o, a1l, a1c, rfl⟩ := A1.sl
  replace A0 := A0.below b3
  replace q0 := q0.below b3
  replace q1 := q1.below b3
  replace q2 := q2.below b3
  replace q3 := q3.below b3
  replace jb := jb.below b3
  replace hb := bstep hb b3
  rw [show decide ((1 : Int) < 0) = false from rfl]
  go_wp2_with fail
  refine (c_of (n := 0) (by decide) (by decide)).mono ?_
  rintro e w4 ⟨v0, rfl, A2, b4⟩
  obtain ⟨m0, rfl, A2⟩ := A2
  obtain ⟨a2o, a2l, a2c, rfl⟩ := A2.sl
  replace A0 := A0.below b4
  replace A1 := A1.below b4
  replace q0 := q0.below b4
  replace q1 := q1.below b4
  replace q2 := q2.below b4
  replace q3 := q3.below b4
  replace jb := jb.below b4
  replace hb := bstep hb b4
  rw [show decide ((0 : Int) < 0) = false from rfl]
  obtain ⟨W5, hW5⟩ : ∃ W5, W5 = w4.alloc (.cells #[.bool an0, .slice a0o a0l a0c, .bool false, .slice a1o a1l a1c, .bool false, .slice a2o a2l a2c] 56) := ⟨_, rfl⟩
  have r7 : RCell W5 w4.heap.size an0 (.slice a0o a0l a0c) false (.slice a1o a1l a1c) false (.slice a2o a2l a2c) := by rw [hW5]; exact rcell_new _ rfl
  have b5 : Below w4.heap.size w4 W5 := by rw [hW5]; exact belowA _ _
  have z5 : W5.heap.size = w4.heap.size + 1 := by rw [hW5]; simp
  replace q0 := q0.below b5
  replace q1 := q1.below b5
  replace q2 := q2.below b5
  replace q3 := q3.below b5
  replace jb := jb.below b5
  replace hb := bstep hb b5
  have HZ5 : Hid (W5.heap.size = w4.heap.size + 1) := z5
  have HW5 : Hid (W5 = w4.alloc (.cells #[.bool an0, .slice a0o a0l a0c, .bool false, .slice a1o a1l a1c, .bool false, .slice a2o a2l a2c] 56)) := hW5
  clear hW5 z5
  obtain ⟨P, hP⟩ : ∃ P, P = w4.heap.size := ⟨_, rfl⟩
  rw [← hP] at r7
  have HP : Hid (P = w4.heap.size) := hP
  have c1 : (w4.alloc (.cells #[.bool an0, .slice a0o a0l a0c, .bool false, .slice a1o a1l a1c, .bool false, .slice a2o a2l a2c] 56)).cell? ⟨g + 1, 0, none⟩ = some (.bool nb) := by rw [← HW5.out]; exact q1.cells.1
  have d1 : (w4.alloc (.cells #[.bool an0, .slice a0o a0l a0c, .bool false, .slice a1o a1l a1c, .bool false, .slice a2o a2l a2c] 56)).cell? ⟨g + 1, 1, none⟩ = some (.slice bo bl bc) := by rw [← HW5.out]; exact q1.cells.2
  go_wp2_with fail
  rw [← HW5.out, ← hP]
  clear HW5 hP c1 d1
  refine (c_size jb).mono ?_
  rw [← HY.out]
  rintro e w6 ⟨v0, rfl, C0, b6⟩
  obtain ⟨m0, rfl, C0⟩ := C0
  obtain ⟨e0o, e0l, e0c, rfl⟩ := C0.sl
  replace r7 := r7.below b6
  replace q0 := q0.below b6
  replace q1 := q1.below b6
  replace q2 := q2.below b6
  replace q3 := q3.below b6
  replace jb := jb.below b6
  replace hb := bstep hb b6
  clear jb
  obtain ⟨en0, hen0⟩ : ∃ n, n = decide (Y < 0) := ⟨_, rfl⟩
  rw [← hen0]
  have HN1 : Hid (en0 = decide (Y < 0)) := hen0
  clear hen0
  go_wp2_with fail
  refine (c_of (n := 0) (by decide) (by decide)).mono ?_
  rintro e w7 ⟨v0, rfl, C1, b7⟩
  obtain ⟨m0, rfl, C1⟩ := C1
  obtain ⟨e1o, e1l, e1c, rfl⟩ := C1.sl
  replace C0 := C0.below b7
  replace r7 := r7.below b7
  replace q0 := q0.below b7
  replace q1 := q1.below b7
  replace q2 := q2.below b7
  replace q3 := q3.below b7
  replace hb := bstep hb b7
  rw [show decide ((0 : Int) < 0) = false from rfl]
  go_wp2_with fail
  refine (c_of (n := 1) (by decide) (by decide)).mono ?_
  rintro e w8 ⟨v0, rfl, C2, b8⟩
  obtain ⟨m0, rfl, C2⟩ := C2
  obtain ⟨e2o, e2l, e2c, rfl⟩ := C2.sl
  replace C0 := C0.below b8
  replace C1 := C1.below b8
  replace r7 := r7.below b8
  replace q0 := q0.below b8
  replace q1 := q1.below b8
  replace q2 := q2.below b8
  replace q3 := q3.below b8
  replace hb := bstep hb b8
  rw [show decide ((1 : Int) < 0) = false from rfl]
  obtain ⟨W9, hW9⟩ : ∃ W9, W9 = w8.alloc (.cells #[.bool en0, .slice e0o e0l e0c, .bool false, .slice e1o e1l e1c, .bool false, .slice e2o e2l e2c] 56) := ⟨_, rfl⟩
  have r8 : RCell W9 w8.heap.size en0 (.slice e0o e0l e0c) false (.slice e1o e1l e1c) false (.slice e2o e2l e2c) := by rw [hW9]; exact rcell_new _ rfl
  have b9 : Below w8.heap.size w8 W9 := by rw [hW9]; exact belowA _ _
  have z9 : w8.heap.size < W9.heap.size := by rw [hW9]; simp
  replace r7 := r7.below b9
  replace q0 := q0.below b9
  replace q1 := q1.below b9
  replace q2 := q2.below b9
  replace q3 := q3.below b9
  replace hb := bstep hb b9
  have l2 := b2.size
  have l3 := b3.size
  have l4 := b4.size
  have l5 := b5.size
  have l6 := b6.size
  have l7 := b7.size
  have l8 := b8.size
  have A0n := IOwn.numR (B := W1.heap.size) (p := w4.heap.size) (q := w8.heap.size) ⟨_, rfl, A0⟩ (Nat.le_refl _) (Or.inr (by omega)) (Or.inr (by omega)) sX (by decide)
  have A1n := IOwn.numR (B := W1.heap.size) (p := w4.heap.size) (q := w8.heap.size) (z := 1) ⟨_, rfl, A1⟩ (by omega) (Or.inr (by omega)) (Or.inr (by omega)) Sz.one (by decide)
  have A2n := IOwn.numR (B := W1.heap.size) (p := w4.heap.size) (q := w8.heap.size) (z := 0) ⟨_, rfl, A2⟩ (by omega) (Or.inr (by omega)) (Or.inr (by omega)) Sz.zero (by decide)
  have hz5 := HZ5.out
  have C0n := IOwn.numR (B := W1.heap.size) (p := w4.heap.size) (q := w8.heap.size) ⟨_, rfl, C0⟩ (by omega) (Or.inl (by omega)) (Or.inr (by omega)) sY (by decide)
  have C1n := IOwn.numR (B := W1.heap.size) (p := w4.heap.size) (q := w8.heap.size) (z := 0) ⟨_, rfl, C1⟩ (by omega) (Or.inl (by omega)) (Or.inr (by omega)) Sz.zero (by decide)
  have C2n := IOwn.numR (B := W1.heap.size) (p := w4.heap.size) (q := w8.heap.size) (z := 1) ⟨_, rfl, C2⟩ (by omega) (Or.inl (by omega)) (Or.inr (by omega)) Sz.one (by decide)
  have HBI : Hid (BInv I BZ w W1.heap.size g w4.heap.size w8.heap.size na nb (.slice ao al ac) (.slice bo bl bc) W9) := by
    obtain ⟨_, _, _, _, e, A0n⟩ := A0n
    cases e
    obtain ⟨_, _, _, _, e, A1n⟩ := A1n
    cases e
    obtain ⟨_, _, _, _, e, A2n⟩ := A2n
    cases e
    obtain ⟨_, _, _, _, e, C0n⟩ := C0n
    cases e
    obtain ⟨_, _, _, _, e, C1n⟩ := C1n
    cases e
    obtain ⟨_, _, _, _, e, C2n⟩ := C2n
    cases e
    rw [← HN0.out] at A0n
    rw [← HN1.out] at C0n
    rw [HP.out] at r7
    have b48 := bstep b5 (bstep b6 (bstep b7 b8))
    exact ⟨X, 1, 0, Y, 0, 1, ⟨_, _, _, _, _, _, _, _, _, _, _, _, r7, (A0n.below b48).below b9, (A1n.below b48).below b9, (A2n.below b48).below b9⟩, ⟨_, _, _, _, _, _, _, _, _, _, _, _, r8, C0n.below b9, C1n.below b9, C2n.below b9⟩, H0.out, HBZ.out, ⟨q0, q1, q2, q3⟩, hb, z9⟩
  have HPQ : Hid (W1.heap.size ≤ w4.heap.size ∧ w4.heap.size < w8.heap.size) := ⟨by omega, by omega⟩
  have HW9 : Hid (W9 = w8.alloc (.cells #[.bool en0, .slice e0o e0l e0c, .bool false, .slice e1o e1l e1c, .bool false, .slice e2o e2l e2c] 56)) := hW9
  rw [← HP.out] at HBI HPQ
  obtain ⟨Qq, hQq⟩ : ∃ Q, Q = w8.heap.size := ⟨_, rfl⟩
  rw [← hQq] at HBI HPQ
  clear A0 A1 A2 C0 C1 C2 A0n A1n A2n C0n C1n C2n hW9 r7 r8 q0 q1 q2 q3 hb b2 b3 b4 b5 b6 b7 b8 b9 l2 l3 l4 l5 l6 l7 l8 hz5 z9 hsz sX sY HN0 HN1 H0 HBZ HZ5 HX HY
  go_wp2_with fail
  rw [← HW9.out, ← hQq]
  clear HW9 hQq
  go_loopw [19] (fun _ wr => BInv I BZ w W1.heap.size g P Qq na nb (.slice ao al ac) (.slice bo bl bc) wr) (fun _ wr => rowV wr Qq)
  case atStart => exact HBI.out
  case round =>
    clear HBI
    obtain ⟨r0, s0, t0, r1, s1, t1, hr7, hr8, hIr, hbz, ⟨q0, q1, q2, q3⟩, hb, hq8⟩ := hrel
    obtain ⟨an0, ao0, al0, ac0, an1, ao1, al1, ac1, an2, ao2, al2, ac2, k7, ra0, ra1, ra2⟩ := hr7
    obtain ⟨bn0, bo0, bl0, bc0, bn1, bo1, bl1, bc1, bn2, bo2, bl2, bc2, k8, rb0, rb1, rb2⟩ := hr8
    have hmeas : rowV _ Qq = r1.natAbs := rowV_eq ⟨_, _, _, _, _, _, _, _, _, _, _, _, k8, rb0, rb1, rb2⟩
    have HME : Hid (rowV _ Qq = r1.natAbs) := hmeas
    clear hmeas
    have HIr : Hid (I r0 s0 t0 r1 s1 t1) := hIr
    have Hbz : Hid (bz r0 s0 t0 r1 s1 t1 = BZ) := hbz
    clear hIr hbz
    obtain ⟨y0, y1, y2, y3, y4, y5⟩ := k8.cells
    go_wp2_with fail
    refine (c_sign rb0.1).mono ?_
    rintro e wA ⟨rfl, bA⟩
    replace k7 := k7.below bA
    replace k8 := k8.below bA
    replace ra0 := ra0.below bA
    replace ra1 := ra1.below bA
    replace ra2 := ra2.below bA
    replace rb0 := rb0.below bA
    replace rb1 := rb1.below bA
    replace rb2 := rb2.below bA
    replace q0 := q0.below bA
    replace q1 := q1.below bA
    replace q2 := q2.below bA
    replace q3 := q3.below bA
    replace hb := bstep hb bA
    replace hq8 := Nat.lt_of_lt_of_le hq8 bA.size
    clear y0 y1 y2 y3 y4 y5 bA
    obtain ⟨cc, hcc⟩ : ∃ c, c = cmpZ r1 0 := ⟨_, rfl⟩
    rw [← hcc]
    by_cases hr1 : r1 = 0
    · have hc0 : (cc != 0) = false := by rw [hcc, (cmpZ_zero r1).2 hr1]; rfl
      have HZ : Hid (BZ = (r0, s0, t0)) := by show _ = _; rw [← Hbz.out]; exact bz_stop hr1
      clear hcc hr1
      go_wp2_with fail
      have k7c := k7.cells
      have q0c := q0.cells
      have q1c := q1.cells
      have hpq := HPQ.out
      have hBg := HB.out
      refine region_late [(2, fun w' => w'.cell? ⟨P, 1, none⟩ = some (.slice ao0 al0 ac0)), (3, fun w' => w'.cell? ⟨g, 0, none⟩ = some (.bool na) ∧ w'.cell? ⟨g, 1, none⟩ = some (.slice ao al ac)), (5, fun w' => w'.cell? ⟨P, 2, none⟩ = some (.bool an1) ∧ w'.cell? ⟨P, 3, none⟩ = some (.slice ao1 al1 ac1)), (7, fun w' => w'.cell? ⟨g + 1, 0, none⟩ = some (.bool nb) ∧ w'.cell? ⟨g + 1, 1, none⟩ = some (.slice bo bl bc)), (9, fun w' => w'.cell? ⟨P, 4, none⟩ = some (.bool an2) ∧ w'.cell? ⟨P, 5, none⟩ = some (.slice ao2 al2 ac2))] (by kernel_rfl) ?_
      have hHeld : AllL wA.drew [(2, fun w' => w'.cell? ⟨P, 1, none⟩ = some (.slice ao0 al0 ac0)), (3, fun w' => w'.cell? ⟨g, 0, none⟩ = some (.bool na) ∧ w'.cell? ⟨g, 1, none⟩ = some (.slice ao al ac)), (5, fun w' => w'.cell? ⟨P, 2, none⟩ = some (.bool an1) ∧ w'.cell? ⟨P, 3, none⟩ = some (.slice ao1 al1 ac1)), (7, fun w' => w'.cell? ⟨g + 1, 0, none⟩ = some (.bool nb) ∧ w'.cell? ⟨g + 1, 1, none⟩ = some (.slice bo bl bc)), (9, fun w' => w'.cell? ⟨P, 4, none⟩ = some (.bool an2) ∧ w'.cell? ⟨P, 5, none⟩ = some (.slice ao2 al2 ac2))] := ⟨k7c.2.1, q0c, ⟨k7c.2.2.1, k7c.2.2.2.1⟩, q1c, ⟨k7c.2.2.2.2.1, k7c.2.2.2.2.2⟩, trivial⟩
      refine late_free 0 (v := .pointer (some ⟨P, 0, none⟩)) rfl (by kernel_rfl) (by kernel_rfl) (by kernel_rfl) (by kernel_rfl) (by kernel_rfl) (by kernel_rfl) (fun _ _ _ h => h) (Or.inl ⟨by rfl, ?_⟩) hHeld ?_
      · (intro u _; go_simp)
      (try simp only [Act.put, List.setIfInBounds_toArray, List.set_cons_zero, List.set_cons_succ])
      refine late_free 1 (v := .pointer (some ⟨P, 1, none⟩)) rfl (by kernel_rfl) (by kernel_rfl) (by kernel_rfl) (by kernel_rfl) (by kernel_rfl) (by kernel_rfl) (fun _ _ _ h => h) (Or.inl ⟨by rfl, ?_⟩) hHeld ?_
      · (intro u _; go_simp)
      (try simp only [Act.put, List.setIfInBounds_toArray, List.set_cons_zero, List.set_cons_succ])
      refine late_take 2 (v := .slice ao0 al0 ac0) rfl (by kernel_rfl) (List.Mem.head _) (by kernel_rfl) (by kernel_rfl) (by kernel_rfl) (by kernel_rfl) (fun _ _ _ h => h) (Or.inl ⟨by rfl, ?_⟩) hHeld ?_
      · (intro u hu; (try dsimp only at hu); go_split_ands; go_simp)
      (try simp only [Act.put, List.setIfInBounds_toArray, List.set_cons_zero, List.set_cons_succ])
      refine late_take 3 (v := .agg #[.bool na, .slice ao al ac]) rfl (by kernel_rfl) (List.Mem.tail _ (List.Mem.head _)) (by kernel_rfl) (by kernel_rfl) (by kernel_rfl) (by kernel_rfl) (fun _ _ _ h => h) (Or.inl ⟨by rfl, ?_⟩) hHeld ?_
      · (intro u hu; (try dsimp only at hu); go_split_ands; go_simp)
      (try simp only [Act.put, List.setIfInBounds_toArray, List.set_cons_zero, List.set_cons_succ])
      refine late_free 4 (v := .pointer (some ⟨P, 2, none⟩)) rfl (by kernel_rfl) (by kernel_rfl) (by kernel_rfl) (by kernel_rfl) (by kernel_rfl) (by kernel_rfl) (fun _ _ _ h => h) (Or.inl ⟨by rfl, ?_⟩) hHeld ?_
      · (intro u _; go_simp)
      (try simp only [Act.put, List.setIfInBounds_toArray, List.set_cons_zero, List.set_cons_succ])
      refine late_take 5 (v := .agg #[.bool an1, .slice ao1 al1 ac1]) rfl (by kernel_rfl) (List.Mem.tail _ (List.Mem.tail _ (List.Mem.head _))) (by kernel_rfl) (by kernel_rfl) (by kernel_rfl) (by kernel_rfl) (fun _ _ _ h => h) (Or.inl ⟨by rfl, ?_⟩) hHeld ?_
      · (intro u hu; (try dsimp only at hu); go_split_ands; go_simp)
      (try simp only [Act.put, List.setIfInBounds_toArray, List.set_cons_zero, List.set_cons_succ])
      refine late_take 7 (v := .agg #[.bool nb, .slice bo bl bc]) rfl (by kernel_rfl) (List.Mem.tail _ (List.Mem.tail _ (List.Mem.tail _ (List.Mem.head _)))) (by kernel_rfl) (by kernel_rfl) (by kernel_rfl) (by kernel_rfl) (fun _ _ _ h => h) (Or.inl ⟨by rfl, ?_⟩) hHeld ?_
      · (intro u hu; (try dsimp only at hu); go_split_ands; go_simp)
      (try simp only [Act.put, List.setIfInBounds_toArray, List.set_cons_zero, List.set_cons_succ])
      refine late_free 8 (v := .pointer (some ⟨P, 4, none⟩)) rfl (by kernel_rfl) (by kernel_rfl) (by kernel_rfl) (by kernel_rfl) (by kernel_rfl) (by kernel_rfl) (fun _ _ _ h => h) (Or.inl ⟨by rfl, ?_⟩) hHeld ?_
      · (intro u _; go_simp)
      (try simp only [Act.put, List.setIfInBounds_toArray, List.set_cons_zero, List.set_cons_succ])
      refine late_take 9 (v := .agg #[.bool an2, .slice ao2 al2 ac2]) rfl (by kernel_rfl) (List.Mem.tail _ (List.Mem.tail _ (List.Mem.tail _ (List.Mem.tail _ (List.Mem.head _))))) (by kernel_rfl) (by kernel_rfl) (by kernel_rfl) (by kernel_rfl) (fun _ _ _ h => h) (Or.inl ⟨by rfl, ?_⟩) hHeld ?_
      · (intro u hu; (try dsimp only at hu); go_split_ands; go_simp)
      (try simp only [Act.put, List.setIfInBounds_toArray, List.set_cons_zero, List.set_cons_succ])
      refine late_step 6 (by kernel_rfl) rfl (fun K hK => ?_)
      go_simp
      refine (c_onSideN (w := wA.drew) ((HAB.out.1.below hb).below (below_drew' _)) (ra1.1.below (below_drew' _)) (B := W1.heap.size) ra1.2.2 (show W1.heap.size ≤ wA.heap.size by omega)).mono ?_
      rintro e wB ⟨vx, rfl, ix, fx, bB⟩
      obtain ⟨nx, xo, xl, xc, xx, rfl, xu, xll, xz⟩ := ix
      have ix : INum wB (.agg #[.bool nx, .slice xo xl xc]) (if x < 0 then -s0 else s0) := ⟨_, _, _, _, _, rfl, xu, xll, xz⟩
      clear xu xll xz
      have bAB := bstep (below_drew' wA) bB
      have lAB := bAB.size
      go_wp2_with fail
      refine hK.out _ _ (AllL.kept ⟨(k7.below bAB).cells.2.1, (q0.below bAB).cells, ⟨(k7.below bAB).cells.2.2.1, (k7.below bAB).cells.2.2.2.1⟩, (q1.below bAB).cells, ⟨(k7.below bAB).cells.2.2.2.2.1, (k7.below bAB).cells.2.2.2.2.2⟩, trivial⟩) ?_
      clear hK K
      (try simp only [Act.put, List.setIfInBounds_toArray, List.set_cons_zero, List.set_cons_succ])
      refine late_step 10 (by kernel_rfl) rfl (fun K hK => ?_)
      go_simp
      refine (c_onSideN ((HAB.out.2.below hb).below bAB) (ra2.1.below bAB) (B := W1.heap.size) ra2.2.2 (by omega)).mono ?_
      rintro e wC ⟨vy, rfl, iy, fy, bC⟩
      obtain ⟨ny, yo, yl, yc, yx, rfl, yu, yll, yz⟩ := iy
      have iy : INum wC (.agg #[.bool ny, .slice yo yl yc]) (if y < 0 then -t0 else t0) := ⟨_, _, _, _, _, rfl, yu, yll, yz⟩
      clear yu yll yz
      have bAC := bstep bAB bC
      go_wp2_with fail
      refine hK.out _ _ (AllL.kept ⟨(k7.below bAC).cells.2.1, (q0.below bAC).cells, ⟨(k7.below bAC).cells.2.2.1, (k7.below bAC).cells.2.2.2.1⟩, (q1.below bAC).cells, ⟨(k7.below bAC).cells.2.2.2.2.1, (k7.below bAC).cells.2.2.2.2.2⟩, trivial⟩) ?_
      clear hK K
      (try simp only [Act.put, List.setIfInBounds_toArray, List.set_cons_zero, List.set_cons_succ])
      replace q2 := q2.below bAC
      replace q3 := q3.below bAC
      obtain ⟨y20, y21⟩ := q2.cells
      obtain ⟨y30, y31⟩ := q3.cells
      have f20 := q2.thaw 0
      have f21 := q2.thaw 1
      have f30 := q3.thaw 0
      have f31 := q3.thaw 1
      refine late_step 11 (by kernel_rfl) rfl (fun K hK => ?_)
      go_simp
      refine hK.out _ _ ⟨Or.inl ⟨11, by kernel_rfl, by kernel_rfl⟩, Or.inl ⟨6, by kernel_rfl, by kernel_rfl⟩, Or.inl ⟨6, by kernel_rfl, by kernel_rfl⟩, Or.inl ⟨10, by kernel_rfl, by kernel_rfl⟩, Or.inl ⟨10, by kernel_rfl, by kernel_rfl⟩, trivial⟩ ?_
      clear hK K
      (try simp only [Act.put, List.setIfInBounds_toArray, List.set_cons_zero, List.set_cons_succ])
      refine late_step 12 (by kernel_rfl) rfl (fun K hK => ?_)
      go_simp
      refine hK.out _ _ ⟨Or.inl ⟨11, by kernel_rfl, by kernel_rfl⟩, Or.inl ⟨6, by kernel_rfl, by kernel_rfl⟩, Or.inl ⟨6, by kernel_rfl, by kernel_rfl⟩, Or.inl ⟨10, by kernel_rfl, by kernel_rfl⟩, Or.inl ⟨10, by kernel_rfl, by kernel_rfl⟩, trivial⟩ ?_
      clear hK K
      (try simp only [Act.put, List.setIfInBounds_toArray, List.set_cons_zero, List.set_cons_succ])
      refine late_step 13 (by kernel_rfl) rfl (fun K hK => ?_)
      go_simp
      refine hK.out _ _ ⟨Or.inl ⟨11, by kernel_rfl, by kernel_rfl⟩, Or.inl ⟨6, by kernel_rfl, by kernel_rfl⟩, Or.inl ⟨6, by kernel_rfl, by kernel_rfl⟩, Or.inl ⟨10, by kernel_rfl, by kernel_rfl⟩, Or.inl ⟨10, by kernel_rfl, by kernel_rfl⟩, trivial⟩ ?_
      clear hK K
      (try simp only [Act.put, List.setIfInBounds_toArray, List.set_cons_zero, List.set_cons_succ])
      refine late_done (by kernel_rfl) ?_ _
      have HW : Hid _ := icell_two (k1 := nx) (k2 := ny) (v1 := .slice xo xl xc) (v2 := .slice yo yl yc) q2 q3 (by omega)
      have HEE : Hid (BEnd w x y BZ (.returned (.tuple #[.slice ao0 al0 ac0, .agg #[.bool nx, .slice xo xl xc], .agg #[.bool ny, .slice yo yl yc]])) ((((wC.setCell ⟨g + 1 + 1, 0, none⟩ (.bool nx)).setCell ⟨g + 1 + 1, 1, none⟩ (.slice xo xl xc)).setCell ⟨g + 1 + 1 + 1, 0, none⟩ (.bool ny)).setCell ⟨g + 1 + 1 + 1, 1, none⟩ (.slice yo yl yc))) := by
        obtain ⟨gs, hgs, hgl, hgv, _⟩ := ((((((ra0.1.below bAC).fr ra0.2.2 (show g + 1 + 1 < W1.heap.size by omega)).fr ra0.2.2 (show g + 1 + 1 < W1.heap.size by omega)).fr ra0.2.2 hBg).fr ra0.2.2 hBg) : INum ((((wC.setCell ⟨g + 1 + 1, 0, none⟩ (.bool nx)).setCell ⟨g + 1 + 1, 1, none⟩ (.slice xo xl xc)).setCell ⟨g + 1 + 1 + 1, 0, none⟩ (.bool ny)).setCell ⟨g + 1 + 1 + 1, 1, none⟩ (.slice yo yl yc)) _ _).abs
        have hz := HZ.out
        exact ⟨_, _, _, gs, rfl, hgs, hgl, by rw [hz]; exact hgv, by rw [hz]; exact (((((ix.below bC).fr fx (show g + 1 + 1 < W1.heap.size by omega)).fr fx (show g + 1 + 1 < W1.heap.size by omega)).fr fx hBg).fr fx hBg), by rw [hz]; exact ((((iy.fr fy (show g + 1 + 1 < W1.heap.size by omega)).fr fy (show g + 1 + 1 < W1.heap.size by omega)).fr fy hBg).fr fy hBg), below_far (bstep hb bAC) (by rw [HG.out]; omega) (by rw [HG.out]; omega)⟩
      clear y20 y21 y30 y31 f20 f21 f30 f31 hHeld k7c q0c q1c
      go_wp2_with fail
      (try simp only [Exit.inBlock, Exit.then])
      exact bodyPost_ret (results_tcc (u := 4) (p := 5) (q := 6) rfl _ _ (g + 1 + 1) (g + 1 + 1 + 1) 25 25 _ _ (0, 0) (0, 0) _ rfl rfl HW.out.1 HW.out.2 Tryd.underlying25 rfl (by kernel_rfl) (by kernel_rfl)) rfl HEE.out
    · have hc0 : (cc != 0) = true := by rw [hcc]; simp only [bne_iff_ne, ne_eq]; intro h; exact hr1 ((cmpZ_zero r1).1 h)
      have HR1 : Hid (r1 ≠ 0) := hr1
      clear hcc hr1
      have HI2 : Hid (I r1 s1 t1 (rz r0 r1) (s0 - r0.tdiv r1 * s1) (t0 - r0.tdiv r1 * t1)) := HI.out _ _ _ _ _ _ HIr.out HR1.out
      have HB2 : Hid (bz r1 s1 t1 (rz r0 r1) (s0 - r0.tdiv r1 * s1) (t0 - r0.tdiv r1 * t1) = BZ) := by show _ = _; rw [← bz_go HR1.out]; exact Hbz.out
      have hS1 := HSZ.out _ _ _ _ _ _ HIr.out
      have hS2 := HSZ.out _ _ _ _ _ _ HI2.out
      have zq := hS1.1.le (tdiv_le r0 r1)
      have HZ : Hid (Sz (r0.tdiv r1 * s1) 800000 ∧ Sz (r0.tdiv r1 * t1) 800000 ∧ Sz (s0 - r0.tdiv r1 * s1) 800000 ∧ Sz (t0 - r0.tdiv r1 * t1) 800000) := ⟨(zq.mul hS1.2.2.2.2.1).mono (by decide), (zq.mul hS1.2.2.2.2.2).mono (by decide), hS2.2.2.2.2.1.mono (by decide), hS2.2.2.2.2.2.mono (by decide)⟩
      clear hS1 hS2 zq
      go_wp2_with fail
      have k7c := k7.cells
      have k8c := k8.cells
      refine region_late [(0, fun w' => w'.cell? ⟨Qq, 0, none⟩ = some (.bool bn0) ∧ w'.cell? ⟨Qq, 1, none⟩ = some (.slice bo0 bl0 bc0) ∧ w'.cell? ⟨Qq, 2, none⟩ = some (.bool bn1) ∧ w'.cell? ⟨Qq, 3, none⟩ = some (.slice bo1 bl1 bc1) ∧ w'.cell? ⟨Qq, 4, none⟩ = some (.bool bn2) ∧ w'.cell? ⟨Qq, 5, none⟩ = some (.slice bo2 bl2 bc2)), (1, fun w' => w'.cell? ⟨P, 0, none⟩ = some (.bool an0) ∧ w'.cell? ⟨P, 1, none⟩ = some (.slice ao0 al0 ac0) ∧ w'.cell? ⟨P, 2, none⟩ = some (.bool an1) ∧ w'.cell? ⟨P, 3, none⟩ = some (.slice ao1 al1 ac1) ∧ w'.cell? ⟨P, 4, none⟩ = some (.bool an2) ∧ w'.cell? ⟨P, 5, none⟩ = some (.slice ao2 al2 ac2)), (2, fun w' => w'.cell? ⟨Qq, 0, none⟩ = some (.bool bn0) ∧ w'.cell? ⟨Qq, 1, none⟩ = some (.slice bo0 bl0 bc0) ∧ w'.cell? ⟨Qq, 2, none⟩ = some (.bool bn1) ∧ w'.cell? ⟨Qq, 3, none⟩ = some (.slice bo1 bl1 bc1) ∧ w'.cell? ⟨Qq, 4, none⟩ = some (.bool bn2) ∧ w'.cell? ⟨Qq, 5, none⟩ = some (.slice bo2 bl2 bc2))] (by kernel_rfl) ?_
      have hHeld : AllL wA.drew [(0, fun w' => w'.cell? ⟨Qq, 0, none⟩ = some (.bool bn0) ∧ w'.cell? ⟨Qq, 1, none⟩ = some (.slice bo0 bl0 bc0) ∧ w'.cell? ⟨Qq, 2, none⟩ = some (.bool bn1) ∧ w'.cell? ⟨Qq, 3, none⟩ = some (.slice bo1 bl1 bc1) ∧ w'.cell? ⟨Qq, 4, none⟩ = some (.bool bn2) ∧ w'.cell? ⟨Qq, 5, none⟩ = some (.slice bo2 bl2 bc2)), (1, fun w' => w'.cell? ⟨P, 0, none⟩ = some (.bool an0) ∧ w'.cell? ⟨P, 1, none⟩ = some (.slice ao0 al0 ac0) ∧ w'.cell? ⟨P, 2, none⟩ = some (.bool an1) ∧ w'.cell? ⟨P, 3, none⟩ = some (.slice ao1 al1 ac1) ∧ w'.cell? ⟨P, 4, none⟩ = some (.bool an2) ∧ w'.cell? ⟨P, 5, none⟩ = some (.slice ao2 al2 ac2)), (2, fun w' => w'.cell? ⟨Qq, 0, none⟩ = some (.bool bn0) ∧ w'.cell? ⟨Qq, 1, none⟩ = some (.slice bo0 bl0 bc0) ∧ w'.cell? ⟨Qq, 2, none⟩ = some (.bool bn1) ∧ w'.cell? ⟨Qq, 3, none⟩ = some (.slice bo1 bl1 bc1) ∧ w'.cell? ⟨Qq, 4, none⟩ = some (.bool bn2) ∧ w'.cell? ⟨Qq, 5, none⟩ = some (.slice bo2 bl2 bc2))] := ⟨k8c, k7c, k8c, trivial⟩
      refine late_take 0 (v := .agg #[.bool bn0, .slice bo0 bl0 bc0, .bool bn1, .slice bo1 bl1 bc1, .bool bn2, .slice bo2 bl2 bc2]) rfl (by kernel_rfl) (List.Mem.head _) (by kernel_rfl) (by kernel_rfl) (by kernel_rfl) (by kernel_rfl) (fun _ _ _ h => h) (Or.inl ⟨by rfl, ?_⟩) hHeld ?_
      · (intro u hu; (try dsimp only at hu); go_split_ands; go_simp)
      (try simp only [Act.put, List.setIfInBounds_toArray, List.set_cons_zero, List.set_cons_succ])
      refine late_take 1 (v := .agg #[.bool an0, .slice ao0 al0 ac0, .bool an1, .slice ao1 al1 ac1, .bool an2, .slice ao2 al2 ac2]) rfl (by kernel_rfl) (List.Mem.tail _ (List.Mem.head _)) (by kernel_rfl) (by kernel_rfl) (by kernel_rfl) (by kernel_rfl) (fun _ _ _ h => h) (Or.inl ⟨by rfl, ?_⟩) hHeld ?_
      · (intro u hu; (try dsimp only at hu); go_split_ands; go_simp)
      (try simp only [Act.put, List.setIfInBounds_toArray, List.set_cons_zero, List.set_cons_succ])
      refine late_take 2 (v := .agg #[.bool bn0, .slice bo0 bl0 bc0, .bool bn1, .slice bo1 bl1 bc1, .bool bn2, .slice bo2 bl2 bc2]) rfl (by kernel_rfl) (List.Mem.tail _ (List.Mem.tail _ (List.Mem.head _))) (by kernel_rfl) (by kernel_rfl) (by kernel_rfl) (by kernel_rfl) (fun _ _ _ h => h) (Or.inl ⟨by rfl, ?_⟩) hHeld ?_
      · (intro u hu; (try dsimp only at hu); go_split_ands; go_simp)
      (try simp only [Act.put, List.setIfInBounds_toArray, List.set_cons_zero, List.set_cons_succ])
      refine late_step 3 (by kernel_rfl) rfl (fun K hK => ?_)
      go_simp
      refine (c_step (w := wA.drew) (G := Qq) hq8 (ra0.1.below (below_drew' _)) (ra1.1.below (below_drew' _)) (ra2.1.below (below_drew' _)) (rb0.1.below (below_drew' _)) (rb1.1.below (below_drew' _)) (rb2.1.below (below_drew' _)) (L := 800000) (by decide) HZ.out.1 HZ.out.2.1 HZ.out.2.2.1 HZ.out.2.2.2).mono ?_
      rintro e wB ⟨n0, m0, n1, m1, n2, m2, rfl, hrow, bB⟩
      obtain ⟨d0, d1, d2⟩ := hrow
      obtain ⟨o0, l0, c0, rfl⟩ := d0.sl
      obtain ⟨o1, l1, c1, rfl⟩ := d1.sl
      obtain ⟨o2, l2, c2, rfl⟩ := d2.sl
      have bAB := bstep (below_drew' wA) bB
      go_wp2_with fail
      refine hK.out _ _ (AllL.kept ⟨(k8.below bAB).cells, (k7.below bAB).cells, (k8.below bAB).cells, trivial⟩) ?_
      clear hK K
      (try simp only [Act.put, List.setIfInBounds_toArray, List.set_cons_zero, List.set_cons_succ])
      replace k7 := k7.below bAB
      replace k8 := k8.below bAB
      obtain ⟨y0, y1, y2, y3, y4, y5⟩ := k7.cells
      obtain ⟨x0, x1, x2, x3, x4, x5⟩ := k8.cells
      have f0 := k7.thaw 0
      have f1 := k7.thaw 1
      have f2 := k7.thaw 2
      have f3 := k7.thaw 3
      have f4 := k7.thaw 4
      have f5 := k7.thaw 5
      have h0 := k8.thaw 0
      have h1 := k8.thaw 1
      have h2 := k8.thaw 2
      have h3 := k8.thaw 3
      have h4 := k8.thaw 4
      have h5 := k8.thaw 5
      have hPQ : ¬ P = Qq := by have := HPQ.out; omega
      have hQP : ¬ Qq = P := by have := HPQ.out; omega
      refine late_step 4 (by kernel_rfl) rfl (fun K hK => ?_)
      go_simp
      refine hK.out _ _ ⟨Or.inl ⟨4, by kernel_rfl, by kernel_rfl⟩, Or.inl ⟨3, by kernel_rfl, by kernel_rfl⟩, Or.inl ⟨3, by kernel_rfl, by kernel_rfl⟩, trivial⟩ ?_
      clear hK K
      (try simp only [Act.put, List.setIfInBounds_toArray, List.set_cons_zero, List.set_cons_succ])
      refine late_step 5 (by kernel_rfl) rfl (fun K hK => ?_)
      go_simp
      refine hK.out _ _ ⟨Or.inl ⟨4, by kernel_rfl, by kernel_rfl⟩, Or.inl ⟨3, by kernel_rfl, by kernel_rfl⟩, Or.inl ⟨3, by kernel_rfl, by kernel_rfl⟩, trivial⟩ ?_
      clear hK K
      (try simp only [Act.put, List.setIfInBounds_toArray, List.set_cons_zero, List.set_cons_succ])
      refine late_done (by kernel_rfl) ?_ _
      obtain ⟨WN, hWN⟩ : ∃ WN, WN = ((((((((((((wB.setCell ⟨P, 0, none⟩ (.bool bn0)).setCell ⟨P, 1, none⟩ (.slice bo0 bl0 bc0)).setCell ⟨P, 2, none⟩ (.bool bn1)).setCell ⟨P, 3, none⟩ (.slice bo1 bl1 bc1)).setCell ⟨P, 4, none⟩ (.bool bn2)).setCell ⟨P, 5, none⟩ (.slice bo2 bl2 bc2)).setCell ⟨Qq, 0, none⟩ (.bool n0)).setCell ⟨Qq, 1, none⟩ (.slice o0 l0 c0)).setCell ⟨Qq, 2, none⟩ (.bool n1)).setCell ⟨Qq, 3, none⟩ (.slice o1 l1 c1)).setCell ⟨Qq, 4, none⟩ (.bool n2)).setCell ⟨Qq, 5, none⟩ (.slice o2 l2 c2)) := ⟨_, rfl⟩
      have HNEW : Hid (BInv I BZ w W1.heap.size g P Qq na nb (.slice ao al ac) (.slice bo bl bc) WN) := by
        have tr := two_rows (k0 := bn0) (v1 := .slice bo0 bl0 bc0) (k1 := bn1) (v3 := .slice bo1 bl1 bc1) (k2 := bn2) (v5 := .slice bo2 bl2 bc2) (j0 := n0) (u1 := .slice o0 l0 c0) (j1 := n1) (u3 := .slice o1 l1 c1) (j2 := n2) (u5 := .slice o2 l2 c2) k7 k8 hPQ
        have hpq := HPQ.out
        have hBg := HB.out
        have hB1 := d0.numR (B := W1.heap.size) (p := P) (by omega) (by omega)
        have hB2 := d1.numR (B := W1.heap.size) (p := P) (by omega) (by omega)
        have hB3 := d2.numR (B := W1.heap.size) (p := P) (by omega) (by omega)
        have e0 := rb0.below bAB
        have e1 := rb1.below bAB
        have e2 := rb2.below bAB
        rw [hWN]
        exact ⟨r1, s1, t1, _, _, _, ⟨_, _, _, _, _, _, _, _, _, _, _, _, tr.1, ⟨e0.1.off12 e0.2.1, e0.2⟩, ⟨e1.1.off12 e1.2.1, e1.2⟩, ⟨e2.1.off12 e2.2.1, e2.2⟩⟩, ⟨_, _, _, _, _, _, _, _, _, _, _, _, tr.2, ⟨hB1.1.off12 hB1.2.1, hB1.2⟩, ⟨hB2.1.off12 hB2.2.1, hB2.2⟩, ⟨hB3.1.off12 hB3.2.1, hB3.2⟩⟩, HI2.out, HB2.out, ⟨(q0.below bAB).off12 (by omega) (by omega), (q1.below bAB).off12 (by omega) (by omega), (q2.below bAB).off12 (by omega) (by omega), (q3.below bAB).off12 (by omega) (by omega)⟩, below12 (bstep hb bAB) (by rw [← HG.out]; omega) (by rw [← HG.out]; omega), by simp only [World.size_setCell]; exact Nat.lt_of_lt_of_le hq8 bAB.size⟩
      have HLT : Hid (rowV WN Qq < r1.natAbs) := by
        have tr := two_rows (k0 := bn0) (v1 := .slice bo0 bl0 bc0) (k1 := bn1) (v3 := .slice bo1 bl1 bc1) (k2 := bn2) (v5 := .slice bo2 bl2 bc2) (j0 := n0) (u1 := .slice o0 l0 c0) (j1 := n1) (u3 := .slice o1 l1 c1) (j2 := n2) (u5 := .slice o2 l2 c2) k7 k8 hPQ
        have hpq := HPQ.out
        have hB1 := d0.numR (B := W1.heap.size) (p := P) (by omega) (by omega)
        have hB2 := d1.numR (B := W1.heap.size) (p := P) (by omega) (by omega)
        have hB3 := d2.numR (B := W1.heap.size) (p := P) (by omega) (by omega)
        show _ < _
        rw [hWN, rowV_eq (B := W1.heap.size) (p := P) (q := Qq) ⟨_, _, _, _, _, _, _, _, _, _, _, _, tr.2, ⟨hB1.1.off12 hB1.2.1, hB1.2⟩, ⟨hB2.1.off12 hB2.2.1, hB2.2⟩, ⟨hB3.1.off12 hB3.2.1, hB3.2⟩⟩]
        exact rz_lt HR1.out
      rw [← hWN]
      clear hWN y0 y1 y2 y3 y4 y5 x0 x1 x2 x3 x4 x5 f0 f1 f2 f3 f4 f5 h0 h1 h2 h3 h4 h5 k7 k8 k7c k8c ra0 ra1 ra2 rb0 rb1 rb2 d0 d1 d2 q0 q1 q2 q3 hb bAB bB hHeld
      go_wp2_with fail
      go_roundw
      case rel => exact HNEW.out
      case measure => rw [HME.out]; exact HLT.out
end Go.Proofs.YtmcnpiajnehnlabDoor
