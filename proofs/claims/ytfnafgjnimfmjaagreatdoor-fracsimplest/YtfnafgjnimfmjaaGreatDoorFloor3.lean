/-
  Proved here: what Floor of package frac and of the document's layer 3 answer.
-/
import Derived.Test.YtfnafgjnimfmjaaGreatDoorDiv3
import Derived.Test.YtfnafgjnimfmjaaGreatDoorRFloor
namespace Go.Proofs.YtfnafgjnimfmjaaGreatDoor
open Go.RowKit
attribute [local go_sem ↓] Go.wp_at_zero Go.wp_at_succ

section
variable {P : Program} {l : List Oper} {Q : Exit → Act → World → Prop} {md : Region.Mode} {L : List (Nat × (World → Prop))}
/-- Number i, j or k may come up. -/
theorem late_three (i j k : Nat) {o o2 o3 : Oper} {n : Nat} {done : Array Bool} {a : Act} {w : World} (hr : Region.ready md l.toArray done = [i, j, k]) (ho : l[i]? = some o) (ho2 : l[j]? = some o2) (ho3 : l[k]? = some o3)
    (h : ∀ K' : Act → World → Prop, Shut (∀ b u, Kept md l.toArray (done.setIfInBounds i true) u L → wpLate P md l.toArray Q L n (done.setIfInBounds i true) b u → K' b u) → if Region.wanted o (yielded l.toArray a.tmps) = true then Oper.wp P o a w K' Q else K' (a.put o.dst undef) w)
    (h2 : ∀ K' : Act → World → Prop, Shut (∀ b u, Kept md l.toArray (done.setIfInBounds j true) u L → wpLate P md l.toArray Q L n (done.setIfInBounds j true) b u → K' b u) → if Region.wanted o2 (yielded l.toArray a.tmps) = true then Oper.wp P o2 a w K' Q else K' (a.put o2.dst undef) w)
    (h3 : ∀ K' : Act → World → Prop, Shut (∀ b u, Kept md l.toArray (done.setIfInBounds k true) u L → wpLate P md l.toArray Q L n (done.setIfInBounds k true) b u → K' b u) → if Region.wanted o3 (yielded l.toArray a.tmps) = true then Oper.wp P o3 a w K' Q else K' (a.put o3.dst undef) w) :
    wpLate P md l.toArray Q L (n + 1) done a w := by
  constructor
  · intro h0; rw [h0] at hr; cases hr
  · intro m hm
    rw [hr] at hm
    rcases List.mem_cons.1 hm with e | hm
    · subst e
      exact wpOp_step (by rw [List.getElem?_toArray]; exact ho) (fun K' hK => h K' (fun b u h1 h2 => hK b u ⟨h1, h2⟩))
    · rcases List.mem_cons.1 hm with e | hm
      · subst e
        exact wpOp_step (by rw [List.getElem?_toArray]; exact ho2) (fun K' hK => h2 K' (fun b u h1 h2 => hK b u ⟨h1, h2⟩))
      · rw [List.mem_singleton] at hm
        subst hm
        exact wpOp_step (by rw [List.getElem?_toArray]; exact ho3) (fun K' hK => h3 K' (fun b u h1 h2 => hK b u ⟨h1, h2⟩))
end
/-- A variable made within the region. -/
structure PV (W1 w : World) (v : Nat) : Prop where
  c : ICell w v false (.slice none 0 0)
  lt : v < w.heap.size
  ge : W1.heap.size ≤ v
theorem PV.below {W1 w w' : World} {v : Nat} (h : PV W1 w v) (hb : Below w.heap.size w w') : PV W1 w' v := ⟨h.c.below hb, Nat.lt_of_lt_of_le h.lt hb.size, h.ge⟩
theorem new_pv {W1 c : World} (B : Below W1.heap.size W1 c) : ∃ wn v, c.alloc (.cells #[.bool false, .slice none 0 0] 25) = wn ∧ c.heap.size = v ∧ PV W1 wn v ∧ Below c.heap.size c wn ∧ Below W1.heap.size W1 wn :=
  ⟨_, _, rfl, rfl, ⟨icell_new _ rfl, by simp, B.size⟩, belowA _ _, bstep B (belowA _ _)⟩
/-- What the region leaves. -/
def FlE (W1 w : World) (v : Nat) (b : Bool) (m : Value) (xs : List Nat) : Prop := ICell w v b m ∧ Own W1.heap.size 37 w m xs ∧ Below W1.heap.size W1 w
theorem fl_end {W1 c : World} {vx vy : Nat} {m m2 : Value} {b b2 : Bool} {xs : List Nat} (hx : PV W1 c vx) (hy : PV W1 c vy) (hxy : vx ≠ vy) (hq : Own W1.heap.size 37 c m xs) (hnx : m.ownBlock = none ∨ m.ownBlock ≠ some vx) (hny : m.ownBlock = none ∨ m.ownBlock ≠ some vy) (B : Below W1.heap.size W1 c) :
    FlE W1 ((((c.setCell ⟨vx, 0, none⟩ (.bool b)).setCell ⟨vx, 1, none⟩ m).setCell ⟨vy, 0, none⟩ (.bool b2)).setCell ⟨vy, 1, none⟩ m2) vx b m xs :=
  ⟨(icell_two hx.c hy.c hxy).1, own_put (own_put hq hnx) hny, (((B.setCell (p := ⟨vx, 0, none⟩) hx.ge _).setCell (p := ⟨vx, 1, none⟩) hx.ge _).setCell (p := ⟨vy, 0, none⟩) hy.ge _).setCell (p := ⟨vy, 1, none⟩) hy.ge _⟩
theorem NB.raw {w : World} {n : Bool} {ao bo : Option Addr} {al ac bl bc : Nat} {p : Int} {q L : Nat} (h : IB w (.agg #[.bool n, .slice ao al ac]) p L) (hd : NB w (.slice bo bl bc) (q : Int) L) (hL : L ≤ 1000000) : RRaw w (.agg #[.bool n, .slice ao al ac, .slice bo bl bc]) p q := by
  obtain ⟨o, l, c, xs, e, h1, h2, h3⟩ := hd
  cases e
  exact ⟨_, _, _, _, _, _, _, _, rfl, h.num hL, h1, Nat.le_trans h2 hL, by omega⟩
set_option maxRecDepth 100000 in
set_option maxHeartbeats 6400000 in
theorem floor3 {p : Int} {q L : Nat} (na : Bool) (ao aO : Option Addr) (al ac aL aC : Nat) {w : World} (ia : IB w (.agg #[.bool na, .slice ao al ac]) p L) (da : NB w (.slice aO aL aC) (q : Int) L) (h1L : 1 ≤ L) (hL : L ≤ 140) : Calls Tryz.prog 24 #[.agg #[.bool na, .slice ao al ac, .slice aO aL aC]] w fun e w' => IEnd w (fq p (und q)) e w' := by
  have hraw := NB.raw ia da (by omega)
  obtain ⟨Z, hZ⟩ : ∃ Z, Z = fq p (und q) := ⟨_, rfl⟩
  obtain ⟨R, hR⟩ : ∃ R, R = fr p (und q) := ⟨_, rfl⟩
  obtain ⟨E, hE⟩ : ∃ E, E = errZ (und q).natAbs := ⟨_, rfl⟩
  rw [← hZ]
  have HZ : Hid (fq p (und q) = Z ∧ fr p (und q) = R ∧ errZ (und q).natAbs = E) := ⟨hZ.symm, hR.symm, hE.symm⟩
  clear hZ hR hE
  obtain ⟨W1, hW1⟩ : ∃ W1, W1 = (w.alloc (.cells #[.bool na, .slice ao al ac, .slice aO aL aC] 27)).alloc (.cells #[.bool false, .slice none 0 0] 25) := ⟨_, rfl⟩
  have qa : QCell W1 (w.heap.size) na (.slice ao al ac) (.slice aO aL aC) := by rw [hW1]; exact (qcell_step (qcell_new _ (by simp)))
  have qR : ICell W1 (w.heap.size + 1) false (.slice none 0 0) := by rw [hW1]; exact (icell_new _ (by simp))
  have hb : Below w.heap.size w W1 := by rw [hW1]; exact bstep (belowA w _) (belowA _ _)
  have hsz : w.heap.size + 1 < W1.heap.size := by rw [hW1]; simp
  replace hraw := hraw.below hb
  replace da := da.below hb
  replace ia := ia.below hb
  have HW1 : Hid (W1 = (w.alloc (.cells #[.bool na, .slice ao al ac, .slice aO aL aC] 27)).alloc (.cells #[.bool false, .slice none 0 0] 25)) := hW1
  clear hW1
  go_enter Tryz.func24, Tryz.ntmps24
  go_wp2_with fail
  rw [← HW1.out]
  clear HW1
  obtain ⟨g, hg⟩ : ∃ g, g = w.heap.size := ⟨_, rfl⟩
  rw [← hg] at qa qR hsz ⊢
  have HG : Hid (g = w.heap.size) := hg
  clear hg
  obtain ⟨cqa0, cqa1, cqa2⟩ := qa.cells
  obtain ⟨cqR0, cqR1⟩ := qR.cells
  go_wp2_with fail
  clear cqa0 cqa1 cqa2 cqR0 cqR1
  go_cut [3] (fun t wx => ∃ vx nx xo xl xc, t = .pointer (some ⟨vx, 0, none⟩) ∧ ICell wx vx nx (.slice xo xl xc) ∧ (nx = decide (Z < 0) ∧ Own W1.heap.size 37 wx (.slice xo xl xc) (lim Z.natAbs)) ∧ Below W1.heap.size W1 wx)
  case first =>
    have KEEP : ∀ u, Below W1.heap.size W1 u → AllL u [(1, fun w' => w'.cell? ⟨g, 0, none⟩ = some (.bool na) ∧ w'.cell? ⟨g, 1, none⟩ = some (.slice ao al ac)), (2, fun w' => w'.cell? ⟨g, 0, none⟩ = some (.bool na) ∧ w'.cell? ⟨g, 1, none⟩ = some (.slice ao al ac) ∧ w'.cell? ⟨g, 2, none⟩ = some (.slice aO aL aC))] := fun u B => ⟨⟨(qa.below B).cells.1, (qa.below B).cells.2.1⟩, (qa.below B).cells, trivial⟩
    refine region_late [(1, fun w' => w'.cell? ⟨g, 0, none⟩ = some (.bool na) ∧ w'.cell? ⟨g, 1, none⟩ = some (.slice ao al ac)), (2, fun w' => w'.cell? ⟨g, 0, none⟩ = some (.bool na) ∧ w'.cell? ⟨g, 1, none⟩ = some (.slice ao al ac) ∧ w'.cell? ⟨g, 2, none⟩ = some (.slice aO aL aC))] (by kernel_rfl) ?_
    have B0 : Below W1.heap.size W1 W1.drew := below_drew' _
    obtain ⟨w0, hw0⟩ : ∃ u, u = W1.drew := ⟨_, rfl⟩
    rw [← hw0] at B0 ⊢
    clear hw0
    have hHeld := KEEP _ B0
    replace ia := ia.below B0
    replace da := da.below B0
    refine late_fr 0 (v := .pointer (some ⟨g, 0, none⟩)) rfl (Or.inl ⟨by rfl, ?_⟩) hHeld ?_
    · (intro u _; go_simp)
    (try simp only [Act.put, putA, putB, putC])
    refine late_tk 1 (v := .agg #[.bool na, .slice ao al ac]) rfl (List.Mem.head _) (Or.inl ⟨by rfl, ?_⟩) hHeld ?_
    · (intro u hu; (try dsimp only at hu); go_split_ands; go_simp)
    (try simp only [Act.put, putA, putB, putC])
    refine late_tk 2 (v := .agg #[.bool na, .slice ao al ac, .slice aO aL aC]) rfl (List.Mem.tail _ (List.Mem.head _)) (Or.inl ⟨by rfl, ?_⟩) hHeld ?_
    · (intro u hu; (try dsimp only at hu); go_split_ands; go_simp)
    (try simp only [Act.put, putA, putB, putC])
    refine late_three 3 10 11 (by kernel_rfl) rfl rfl rfl (fun K hK => ?t97) (fun K hK => ?t98) (fun K hK => ?t99)
    case' t97 =>
     go_simp
     refine (den3 (na := na) (ao := ao) (al := al) (ac := ac) da ⟨h1L, by omega⟩).mono ?_
     rintro e w2 ⟨uo, ul, uc, rfl, nu, b2⟩
     clear da
     replace ia := ia.below b2
     have B2 : Below W1.heap.size W1 w2 := bstep B0 b2
     go_wp2_with fail
     replace hHeld := KEEP _ B2
     refine hK.out _ _ (AllL.kept hHeld) ?_
     clear hK K
     (try simp only [Act.put, putA, putB, putC])
     refine late_three 4 10 11 (by kernel_rfl) rfl rfl rfl (fun K hK => ?t54) (fun K hK => ?t55) (fun K hK => ?t56)
     case' t54 =>
      go_simp
      have iu := nu.ib
      refine (whole3 _ _ _ _).mono ?_
      rintro e w3 ⟨rfl, b3⟩
      replace iu := iu.below b3
      clear nu
      replace ia := ia.below b3
      have B3 : Below W1.heap.size W1 w3 := bstep B2 b3
      go_wp2_with fail
      replace hHeld := KEEP _ B3
      refine hK.out _ _ (AllL.kept hHeld) ?_
      clear hK K
      (try simp only [Act.put, putA, putB, putC])
      refine late_three 5 10 11 (by kernel_rfl) rfl rfl rfl (fun K hK => ?t25) (fun K hK => ?t26) (fun K hK => ?t27)
      case' t25 =>
       go_simp
       have hc := rfloor ia iu (by omega)
       rw [HZ.out.1, HZ.out.2.1, HZ.out.2.2] at hc
       refine hc.mono ?_
       rintro e w4 ⟨mq, mr, rfl, hq, hr, hqr, b4⟩
       obtain ⟨mo, ml, mc, rfl⟩ := hq.sl
       obtain ⟨no, nl, nc, rfl⟩ := hr.sl
       clear hc hr
       replace hq := hq.mono (B' := W1.heap.size) B3.size
       clear hqr ia iu
       have B4 : Below W1.heap.size W1 w4 := bstep B3 b4
       go_wp2_with fail
       replace hHeld := KEEP _ B4
       refine hK.out _ _ (AllL.kept hHeld) ?_
       clear hK K
       (try simp only [Act.put, putA, putB, putC])
       refine late_fr 6 (v := .tuple #[.agg #[.bool (decide (Z < 0)), .slice mo ml mc], .agg #[.bool (decide (R < 0)), .slice no nl nc], .int .i64 E]) rfl (Or.inl ⟨by rfl, ?_⟩) hHeld ?_
       · (intro u _; go_simp)
       (try simp only [Act.put, putA, putB, putC])
       refine late_fr 7 (v := .agg #[.bool (decide (Z < 0)), .slice mo ml mc]) rfl (Or.inl ⟨by rfl, ?_⟩) hHeld ?_
       · (intro u _; go_simp)
       (try simp only [Act.put, putA, putB, putC])
       refine late_fr 8 (v := .agg #[.bool (decide (R < 0)), .slice no nl nc]) rfl (Or.inl ⟨by rfl, ?_⟩) hHeld ?_
       · (intro u _; go_simp)
       (try simp only [Act.put, putA, putB, putC])
       refine late_fr 9 (v := .int .i64 E) rfl (Or.inl ⟨by rfl, ?_⟩) hHeld ?_
       · (intro u _; go_simp)
       (try simp only [Act.put, putA, putB, putC])
       refine late_two 10 11 (by kernel_rfl) rfl rfl (fun K hK => ?t9) (fun K hK => ?t10)
       case' t9 =>
        go_simp
        obtain ⟨w5, vx, hw, hv, pvx, b5, B5⟩ := new_pv B4
        rw [hw, hv]
        have hnx := own_ne_top hq
        rw [hv] at hnx
        clear hw hv
        replace hq := hq.below b5
        replace hHeld := KEEP _ B5
        refine hK.out _ _ (AllL.kept hHeld) ?_
        clear hK K
        (try simp only [Act.put, putA, putB, putC])
        refine late_st 11 rfl (fun K hK => ?_)
        go_simp
        obtain ⟨w6, vy, hw, hv, pvy, b6, B6⟩ := new_pv B5
        rw [hw, hv]
        have hny := own_ne_top hq
        rw [hv] at hny
        have hxy : vx ≠ vy := by have := pvx.lt; omega
        clear hw hv
        replace hq := hq.below b6
        replace pvx := pvx.below b6
        replace hHeld := KEEP _ B6
        refine hK.out _ _ (AllL.kept hHeld) ?_
        clear hK K
        (try simp only [Act.put, putA, putB, putC])
        have Bz := B6
       case' t10 =>
        go_simp
        obtain ⟨w7, vy, hw, hv, pvy, b7, B7⟩ := new_pv B4
        rw [hw, hv]
        have hny := own_ne_top hq
        rw [hv] at hny
        clear hw hv
        replace hq := hq.below b7
        replace hHeld := KEEP _ B7
        refine hK.out _ _ (AllL.kept hHeld) ?_
        clear hK K
        (try simp only [Act.put, putA, putB, putC])
        refine late_st 10 rfl (fun K hK => ?_)
        go_simp
        obtain ⟨w8, vx, hw, hv, pvx, b8, B8⟩ := new_pv B7
        rw [hw, hv]
        have hnx := own_ne_top hq
        rw [hv] at hnx
        have hxy : vx ≠ vy := by have := pvy.lt; omega
        clear hw hv
        replace hq := hq.below b8
        replace pvy := pvy.below b8
        replace hHeld := KEEP _ B8
        refine hK.out _ _ (AllL.kept hHeld) ?_
        clear hK K
        (try simp only [Act.put, putA, putB, putC])
        have Bz := B8
      case' t26 =>
       go_simp
       obtain ⟨w11, vx, hw, hv, pvx, b11, B11⟩ := new_pv B3
       rw [hw, hv]
       clear hw hv
       replace ia := ia.below b11
       replace iu := iu.below b11
       replace hHeld := KEEP _ B11
       refine hK.out _ _ (AllL.kept hHeld) ?_
       clear hK K
       (try simp only [Act.put, putA, putB, putC])
       refine late_two 5 11 (by kernel_rfl) rfl rfl (fun K hK => ?t16) (fun K hK => ?t17)
       case' t16 =>
        go_simp
        have hc := rfloor ia iu (by omega)
        rw [HZ.out.1, HZ.out.2.1, HZ.out.2.2] at hc
        refine hc.mono ?_
        rintro e w12 ⟨mq, mr, rfl, hq, hr, hqr, b12⟩
        obtain ⟨mo, ml, mc, rfl⟩ := hq.sl
        obtain ⟨no, nl, nc, rfl⟩ := hr.sl
        clear hc hr
        have hnx := own_ne3 hq pvx.lt
        replace hq := hq.mono (B' := W1.heap.size) B11.size
        clear hqr ia iu
        replace pvx := pvx.below b12
        have B12 : Below W1.heap.size W1 w12 := bstep B11 b12
        go_wp2_with fail
        replace hHeld := KEEP _ B12
        refine hK.out _ _ (AllL.kept hHeld) ?_
        clear hK K
        (try simp only [Act.put, putA, putB, putC])
        refine late_fr 6 (v := .tuple #[.agg #[.bool (decide (Z < 0)), .slice mo ml mc], .agg #[.bool (decide (R < 0)), .slice no nl nc], .int .i64 E]) rfl (Or.inl ⟨by rfl, ?_⟩) hHeld ?_
        · (intro u _; go_simp)
        (try simp only [Act.put, putA, putB, putC])
        refine late_fr 7 (v := .agg #[.bool (decide (Z < 0)), .slice mo ml mc]) rfl (Or.inl ⟨by rfl, ?_⟩) hHeld ?_
        · (intro u _; go_simp)
        (try simp only [Act.put, putA, putB, putC])
        refine late_fr 8 (v := .agg #[.bool (decide (R < 0)), .slice no nl nc]) rfl (Or.inl ⟨by rfl, ?_⟩) hHeld ?_
        · (intro u _; go_simp)
        (try simp only [Act.put, putA, putB, putC])
        refine late_fr 9 (v := .int .i64 E) rfl (Or.inl ⟨by rfl, ?_⟩) hHeld ?_
        · (intro u _; go_simp)
        (try simp only [Act.put, putA, putB, putC])
        refine late_st 11 rfl (fun K hK => ?_)
        go_simp
        obtain ⟨w13, vy, hw, hv, pvy, b13, B13⟩ := new_pv B12
        rw [hw, hv]
        have hny := own_ne_top hq
        rw [hv] at hny
        have hxy : vx ≠ vy := by have := pvx.lt; omega
        clear hw hv
        replace hq := hq.below b13
        replace pvx := pvx.below b13
        replace hHeld := KEEP _ B13
        refine hK.out _ _ (AllL.kept hHeld) ?_
        clear hK K
        (try simp only [Act.put, putA, putB, putC])
        have Bz := B13
       case' t17 =>
        go_simp
        obtain ⟨w14, vy, hw, hv, pvy, b14, B14⟩ := new_pv B11
        rw [hw, hv]
        have hxy : vx ≠ vy := by have := pvx.lt; omega
        clear hw hv
        replace ia := ia.below b14
        replace iu := iu.below b14
        replace pvx := pvx.below b14
        replace hHeld := KEEP _ B14
        refine hK.out _ _ (AllL.kept hHeld) ?_
        clear hK K
        (try simp only [Act.put, putA, putB, putC])
        refine late_st 5 rfl (fun K hK => ?_)
        go_simp
        have hc := rfloor ia iu (by omega)
        rw [HZ.out.1, HZ.out.2.1, HZ.out.2.2] at hc
        refine hc.mono ?_
        rintro e w15 ⟨mq, mr, rfl, hq, hr, hqr, b15⟩
        obtain ⟨mo, ml, mc, rfl⟩ := hq.sl
        obtain ⟨no, nl, nc, rfl⟩ := hr.sl
        clear hc hr
        have hnx := own_ne3 hq pvx.lt
        have hny := own_ne3 hq pvy.lt
        replace hq := hq.mono (B' := W1.heap.size) B14.size
        clear hqr ia iu
        replace pvx := pvx.below b15
        replace pvy := pvy.below b15
        have B15 : Below W1.heap.size W1 w15 := bstep B14 b15
        go_wp2_with fail
        replace hHeld := KEEP _ B15
        refine hK.out _ _ (AllL.kept hHeld) ?_
        clear hK K
        (try simp only [Act.put, putA, putB, putC])
        refine late_fr 6 (v := .tuple #[.agg #[.bool (decide (Z < 0)), .slice mo ml mc], .agg #[.bool (decide (R < 0)), .slice no nl nc], .int .i64 E]) rfl (Or.inl ⟨by rfl, ?_⟩) hHeld ?_
        · (intro u _; go_simp)
        (try simp only [Act.put, putA, putB, putC])
        refine late_fr 7 (v := .agg #[.bool (decide (Z < 0)), .slice mo ml mc]) rfl (Or.inl ⟨by rfl, ?_⟩) hHeld ?_
        · (intro u _; go_simp)
        (try simp only [Act.put, putA, putB, putC])
        refine late_fr 8 (v := .agg #[.bool (decide (R < 0)), .slice no nl nc]) rfl (Or.inl ⟨by rfl, ?_⟩) hHeld ?_
        · (intro u _; go_simp)
        (try simp only [Act.put, putA, putB, putC])
        refine late_fr 9 (v := .int .i64 E) rfl (Or.inl ⟨by rfl, ?_⟩) hHeld ?_
        · (intro u _; go_simp)
        (try simp only [Act.put, putA, putB, putC])
        have Bz := B15
      case' t27 =>
       go_simp
       obtain ⟨w18, vy, hw, hv, pvy, b18, B18⟩ := new_pv B3
       rw [hw, hv]
       clear hw hv
       replace ia := ia.below b18
       replace iu := iu.below b18
       replace hHeld := KEEP _ B18
       refine hK.out _ _ (AllL.kept hHeld) ?_
       clear hK K
       (try simp only [Act.put, putA, putB, putC])
       refine late_two 5 10 (by kernel_rfl) rfl rfl (fun K hK => ?t23) (fun K hK => ?t24)
       case' t23 =>
        go_simp
        have hc := rfloor ia iu (by omega)
        rw [HZ.out.1, HZ.out.2.1, HZ.out.2.2] at hc
        refine hc.mono ?_
        rintro e w19 ⟨mq, mr, rfl, hq, hr, hqr, b19⟩
        obtain ⟨mo, ml, mc, rfl⟩ := hq.sl
        obtain ⟨no, nl, nc, rfl⟩ := hr.sl
        clear hc hr
        have hny := own_ne3 hq pvy.lt
        replace hq := hq.mono (B' := W1.heap.size) B18.size
        clear hqr ia iu
        replace pvy := pvy.below b19
        have B19 : Below W1.heap.size W1 w19 := bstep B18 b19
        go_wp2_with fail
        replace hHeld := KEEP _ B19
        refine hK.out _ _ (AllL.kept hHeld) ?_
        clear hK K
        (try simp only [Act.put, putA, putB, putC])
        refine late_fr 6 (v := .tuple #[.agg #[.bool (decide (Z < 0)), .slice mo ml mc], .agg #[.bool (decide (R < 0)), .slice no nl nc], .int .i64 E]) rfl (Or.inl ⟨by rfl, ?_⟩) hHeld ?_
        · (intro u _; go_simp)
        (try simp only [Act.put, putA, putB, putC])
        refine late_fr 7 (v := .agg #[.bool (decide (Z < 0)), .slice mo ml mc]) rfl (Or.inl ⟨by rfl, ?_⟩) hHeld ?_
        · (intro u _; go_simp)
        (try simp only [Act.put, putA, putB, putC])
        refine late_fr 8 (v := .agg #[.bool (decide (R < 0)), .slice no nl nc]) rfl (Or.inl ⟨by rfl, ?_⟩) hHeld ?_
        · (intro u _; go_simp)
        (try simp only [Act.put, putA, putB, putC])
        refine late_fr 9 (v := .int .i64 E) rfl (Or.inl ⟨by rfl, ?_⟩) hHeld ?_
        · (intro u _; go_simp)
        (try simp only [Act.put, putA, putB, putC])
        refine late_st 10 rfl (fun K hK => ?_)
        go_simp
        obtain ⟨w20, vx, hw, hv, pvx, b20, B20⟩ := new_pv B19
        rw [hw, hv]
        have hnx := own_ne_top hq
        rw [hv] at hnx
        have hxy : vx ≠ vy := by have := pvy.lt; omega
        clear hw hv
        replace hq := hq.below b20
        replace pvy := pvy.below b20
        replace hHeld := KEEP _ B20
        refine hK.out _ _ (AllL.kept hHeld) ?_
        clear hK K
        (try simp only [Act.put, putA, putB, putC])
        have Bz := B20
       case' t24 =>
        go_simp
        obtain ⟨w21, vx, hw, hv, pvx, b21, B21⟩ := new_pv B18
        rw [hw, hv]
        have hxy : vx ≠ vy := by have := pvy.lt; omega
        clear hw hv
        replace ia := ia.below b21
        replace iu := iu.below b21
        replace pvy := pvy.below b21
        replace hHeld := KEEP _ B21
        refine hK.out _ _ (AllL.kept hHeld) ?_
        clear hK K
        (try simp only [Act.put, putA, putB, putC])
        refine late_st 5 rfl (fun K hK => ?_)
        go_simp
        have hc := rfloor ia iu (by omega)
        rw [HZ.out.1, HZ.out.2.1, HZ.out.2.2] at hc
        refine hc.mono ?_
        rintro e w22 ⟨mq, mr, rfl, hq, hr, hqr, b22⟩
        obtain ⟨mo, ml, mc, rfl⟩ := hq.sl
        obtain ⟨no, nl, nc, rfl⟩ := hr.sl
        clear hc hr
        have hny := own_ne3 hq pvy.lt
        have hnx := own_ne3 hq pvx.lt
        replace hq := hq.mono (B' := W1.heap.size) B21.size
        clear hqr ia iu
        replace pvy := pvy.below b22
        replace pvx := pvx.below b22
        have B22 : Below W1.heap.size W1 w22 := bstep B21 b22
        go_wp2_with fail
        replace hHeld := KEEP _ B22
        refine hK.out _ _ (AllL.kept hHeld) ?_
        clear hK K
        (try simp only [Act.put, putA, putB, putC])
        refine late_fr 6 (v := .tuple #[.agg #[.bool (decide (Z < 0)), .slice mo ml mc], .agg #[.bool (decide (R < 0)), .slice no nl nc], .int .i64 E]) rfl (Or.inl ⟨by rfl, ?_⟩) hHeld ?_
        · (intro u _; go_simp)
        (try simp only [Act.put, putA, putB, putC])
        refine late_fr 7 (v := .agg #[.bool (decide (Z < 0)), .slice mo ml mc]) rfl (Or.inl ⟨by rfl, ?_⟩) hHeld ?_
        · (intro u _; go_simp)
        (try simp only [Act.put, putA, putB, putC])
        refine late_fr 8 (v := .agg #[.bool (decide (R < 0)), .slice no nl nc]) rfl (Or.inl ⟨by rfl, ?_⟩) hHeld ?_
        · (intro u _; go_simp)
        (try simp only [Act.put, putA, putB, putC])
        refine late_fr 9 (v := .int .i64 E) rfl (Or.inl ⟨by rfl, ?_⟩) hHeld ?_
        · (intro u _; go_simp)
        (try simp only [Act.put, putA, putB, putC])
        have Bz := B22
     case' t55 =>
      go_simp
      obtain ⟨w28, vx, hw, hv, pvx, b28, B28⟩ := new_pv B2
      rw [hw, hv]
      clear hw hv
      replace ia := ia.below b28
      replace nu := nu.below b28
      replace hHeld := KEEP _ B28
      refine hK.out _ _ (AllL.kept hHeld) ?_
      clear hK K
      (try simp only [Act.put, putA, putB, putC])
      refine late_two 4 11 (by kernel_rfl) rfl rfl (fun K hK => ?t39) (fun K hK => ?t40)
      case' t39 =>
       go_simp
       have iu := nu.ib
       refine (whole3 _ _ _ _).mono ?_
       rintro e w29 ⟨rfl, b29⟩
       replace iu := iu.below b29
       clear nu
       replace ia := ia.below b29
       replace pvx := pvx.below b29
       have B29 : Below W1.heap.size W1 w29 := bstep B28 b29
       go_wp2_with fail
       replace hHeld := KEEP _ B29
       refine hK.out _ _ (AllL.kept hHeld) ?_
       clear hK K
       (try simp only [Act.put, putA, putB, putC])
       refine late_two 5 11 (by kernel_rfl) rfl rfl (fun K hK => ?t34) (fun K hK => ?t35)
       case' t34 =>
        go_simp
        have hc := rfloor ia iu (by omega)
        rw [HZ.out.1, HZ.out.2.1, HZ.out.2.2] at hc
        refine hc.mono ?_
        rintro e w30 ⟨mq, mr, rfl, hq, hr, hqr, b30⟩
        obtain ⟨mo, ml, mc, rfl⟩ := hq.sl
        obtain ⟨no, nl, nc, rfl⟩ := hr.sl
        clear hc hr
        have hnx := own_ne3 hq pvx.lt
        replace hq := hq.mono (B' := W1.heap.size) B29.size
        clear hqr ia iu
        replace pvx := pvx.below b30
        have B30 : Below W1.heap.size W1 w30 := bstep B29 b30
        go_wp2_with fail
        replace hHeld := KEEP _ B30
        refine hK.out _ _ (AllL.kept hHeld) ?_
        clear hK K
        (try simp only [Act.put, putA, putB, putC])
        refine late_fr 6 (v := .tuple #[.agg #[.bool (decide (Z < 0)), .slice mo ml mc], .agg #[.bool (decide (R < 0)), .slice no nl nc], .int .i64 E]) rfl (Or.inl ⟨by rfl, ?_⟩) hHeld ?_
        · (intro u _; go_simp)
        (try simp only [Act.put, putA, putB, putC])
        refine late_fr 7 (v := .agg #[.bool (decide (Z < 0)), .slice mo ml mc]) rfl (Or.inl ⟨by rfl, ?_⟩) hHeld ?_
        · (intro u _; go_simp)
        (try simp only [Act.put, putA, putB, putC])
        refine late_fr 8 (v := .agg #[.bool (decide (R < 0)), .slice no nl nc]) rfl (Or.inl ⟨by rfl, ?_⟩) hHeld ?_
        · (intro u _; go_simp)
        (try simp only [Act.put, putA, putB, putC])
        refine late_fr 9 (v := .int .i64 E) rfl (Or.inl ⟨by rfl, ?_⟩) hHeld ?_
        · (intro u _; go_simp)
        (try simp only [Act.put, putA, putB, putC])
        refine late_st 11 rfl (fun K hK => ?_)
        go_simp
        obtain ⟨w31, vy, hw, hv, pvy, b31, B31⟩ := new_pv B30
        rw [hw, hv]
        have hny := own_ne_top hq
        rw [hv] at hny
        have hxy : vx ≠ vy := by have := pvx.lt; omega
        clear hw hv
        replace hq := hq.below b31
        replace pvx := pvx.below b31
        replace hHeld := KEEP _ B31
        refine hK.out _ _ (AllL.kept hHeld) ?_
        clear hK K
        (try simp only [Act.put, putA, putB, putC])
        have Bz := B31
       case' t35 =>
        go_simp
        obtain ⟨w32, vy, hw, hv, pvy, b32, B32⟩ := new_pv B29
        rw [hw, hv]
        have hxy : vx ≠ vy := by have := pvx.lt; omega
        clear hw hv
        replace ia := ia.below b32
        replace iu := iu.below b32
        replace pvx := pvx.below b32
        replace hHeld := KEEP _ B32
        refine hK.out _ _ (AllL.kept hHeld) ?_
        clear hK K
        (try simp only [Act.put, putA, putB, putC])
        refine late_st 5 rfl (fun K hK => ?_)
        go_simp
        have hc := rfloor ia iu (by omega)
        rw [HZ.out.1, HZ.out.2.1, HZ.out.2.2] at hc
        refine hc.mono ?_
        rintro e w33 ⟨mq, mr, rfl, hq, hr, hqr, b33⟩
        obtain ⟨mo, ml, mc, rfl⟩ := hq.sl
        obtain ⟨no, nl, nc, rfl⟩ := hr.sl
        clear hc hr
        have hnx := own_ne3 hq pvx.lt
        have hny := own_ne3 hq pvy.lt
        replace hq := hq.mono (B' := W1.heap.size) B32.size
        clear hqr ia iu
        replace pvx := pvx.below b33
        replace pvy := pvy.below b33
        have B33 : Below W1.heap.size W1 w33 := bstep B32 b33
        go_wp2_with fail
        replace hHeld := KEEP _ B33
        refine hK.out _ _ (AllL.kept hHeld) ?_
        clear hK K
        (try simp only [Act.put, putA, putB, putC])
        refine late_fr 6 (v := .tuple #[.agg #[.bool (decide (Z < 0)), .slice mo ml mc], .agg #[.bool (decide (R < 0)), .slice no nl nc], .int .i64 E]) rfl (Or.inl ⟨by rfl, ?_⟩) hHeld ?_
        · (intro u _; go_simp)
        (try simp only [Act.put, putA, putB, putC])
        refine late_fr 7 (v := .agg #[.bool (decide (Z < 0)), .slice mo ml mc]) rfl (Or.inl ⟨by rfl, ?_⟩) hHeld ?_
        · (intro u _; go_simp)
        (try simp only [Act.put, putA, putB, putC])
        refine late_fr 8 (v := .agg #[.bool (decide (R < 0)), .slice no nl nc]) rfl (Or.inl ⟨by rfl, ?_⟩) hHeld ?_
        · (intro u _; go_simp)
        (try simp only [Act.put, putA, putB, putC])
        refine late_fr 9 (v := .int .i64 E) rfl (Or.inl ⟨by rfl, ?_⟩) hHeld ?_
        · (intro u _; go_simp)
        (try simp only [Act.put, putA, putB, putC])
        have Bz := B33
      case' t40 =>
       go_simp
       obtain ⟨w36, vy, hw, hv, pvy, b36, B36⟩ := new_pv B28
       rw [hw, hv]
       have hxy : vx ≠ vy := by have := pvx.lt; omega
       clear hw hv
       replace ia := ia.below b36
       replace nu := nu.below b36
       replace pvx := pvx.below b36
       replace hHeld := KEEP _ B36
       refine hK.out _ _ (AllL.kept hHeld) ?_
       clear hK K
       (try simp only [Act.put, putA, putB, putC])
       refine late_st 4 rfl (fun K hK => ?_)
       go_simp
       have iu := nu.ib
       refine (whole3 _ _ _ _).mono ?_
       rintro e w37 ⟨rfl, b37⟩
       replace iu := iu.below b37
       clear nu
       replace ia := ia.below b37
       replace pvx := pvx.below b37
       replace pvy := pvy.below b37
       have B37 : Below W1.heap.size W1 w37 := bstep B36 b37
       go_wp2_with fail
       replace hHeld := KEEP _ B37
       refine hK.out _ _ (AllL.kept hHeld) ?_
       clear hK K
       (try simp only [Act.put, putA, putB, putC])
       refine late_st 5 rfl (fun K hK => ?_)
       go_simp
       have hc := rfloor ia iu (by omega)
       rw [HZ.out.1, HZ.out.2.1, HZ.out.2.2] at hc
       refine hc.mono ?_
       rintro e w38 ⟨mq, mr, rfl, hq, hr, hqr, b38⟩
       obtain ⟨mo, ml, mc, rfl⟩ := hq.sl
       obtain ⟨no, nl, nc, rfl⟩ := hr.sl
       clear hc hr
       have hnx := own_ne3 hq pvx.lt
       have hny := own_ne3 hq pvy.lt
       replace hq := hq.mono (B' := W1.heap.size) B37.size
       clear hqr ia iu
       replace pvx := pvx.below b38
       replace pvy := pvy.below b38
       have B38 : Below W1.heap.size W1 w38 := bstep B37 b38
       go_wp2_with fail
       replace hHeld := KEEP _ B38
       refine hK.out _ _ (AllL.kept hHeld) ?_
       clear hK K
       (try simp only [Act.put, putA, putB, putC])
       refine late_fr 6 (v := .tuple #[.agg #[.bool (decide (Z < 0)), .slice mo ml mc], .agg #[.bool (decide (R < 0)), .slice no nl nc], .int .i64 E]) rfl (Or.inl ⟨by rfl, ?_⟩) hHeld ?_
       · (intro u _; go_simp)
       (try simp only [Act.put, putA, putB, putC])
       refine late_fr 7 (v := .agg #[.bool (decide (Z < 0)), .slice mo ml mc]) rfl (Or.inl ⟨by rfl, ?_⟩) hHeld ?_
       · (intro u _; go_simp)
       (try simp only [Act.put, putA, putB, putC])
       refine late_fr 8 (v := .agg #[.bool (decide (R < 0)), .slice no nl nc]) rfl (Or.inl ⟨by rfl, ?_⟩) hHeld ?_
       · (intro u _; go_simp)
       (try simp only [Act.put, putA, putB, putC])
       refine late_fr 9 (v := .int .i64 E) rfl (Or.inl ⟨by rfl, ?_⟩) hHeld ?_
       · (intro u _; go_simp)
       (try simp only [Act.put, putA, putB, putC])
       have Bz := B38
     case' t56 =>
      go_simp
      obtain ⟨w41, vy, hw, hv, pvy, b41, B41⟩ := new_pv B2
      rw [hw, hv]
      clear hw hv
      replace ia := ia.below b41
      replace nu := nu.below b41
      replace hHeld := KEEP _ B41
      refine hK.out _ _ (AllL.kept hHeld) ?_
      clear hK K
      (try simp only [Act.put, putA, putB, putC])
      refine late_two 4 10 (by kernel_rfl) rfl rfl (fun K hK => ?t52) (fun K hK => ?t53)
      case' t52 =>
       go_simp
       have iu := nu.ib
       refine (whole3 _ _ _ _).mono ?_
       rintro e w42 ⟨rfl, b42⟩
       replace iu := iu.below b42
       clear nu
       replace ia := ia.below b42
       replace pvy := pvy.below b42
       have B42 : Below W1.heap.size W1 w42 := bstep B41 b42
       go_wp2_with fail
       replace hHeld := KEEP _ B42
       refine hK.out _ _ (AllL.kept hHeld) ?_
       clear hK K
       (try simp only [Act.put, putA, putB, putC])
       refine late_two 5 10 (by kernel_rfl) rfl rfl (fun K hK => ?t47) (fun K hK => ?t48)
       case' t47 =>
        go_simp
        have hc := rfloor ia iu (by omega)
        rw [HZ.out.1, HZ.out.2.1, HZ.out.2.2] at hc
        refine hc.mono ?_
        rintro e w43 ⟨mq, mr, rfl, hq, hr, hqr, b43⟩
        obtain ⟨mo, ml, mc, rfl⟩ := hq.sl
        obtain ⟨no, nl, nc, rfl⟩ := hr.sl
        clear hc hr
        have hny := own_ne3 hq pvy.lt
        replace hq := hq.mono (B' := W1.heap.size) B42.size
        clear hqr ia iu
        replace pvy := pvy.below b43
        have B43 : Below W1.heap.size W1 w43 := bstep B42 b43
        go_wp2_with fail
        replace hHeld := KEEP _ B43
        refine hK.out _ _ (AllL.kept hHeld) ?_
        clear hK K
        (try simp only [Act.put, putA, putB, putC])
        refine late_fr 6 (v := .tuple #[.agg #[.bool (decide (Z < 0)), .slice mo ml mc], .agg #[.bool (decide (R < 0)), .slice no nl nc], .int .i64 E]) rfl (Or.inl ⟨by rfl, ?_⟩) hHeld ?_
        · (intro u _; go_simp)
        (try simp only [Act.put, putA, putB, putC])
        refine late_fr 7 (v := .agg #[.bool (decide (Z < 0)), .slice mo ml mc]) rfl (Or.inl ⟨by rfl, ?_⟩) hHeld ?_
        · (intro u _; go_simp)
        (try simp only [Act.put, putA, putB, putC])
        refine late_fr 8 (v := .agg #[.bool (decide (R < 0)), .slice no nl nc]) rfl (Or.inl ⟨by rfl, ?_⟩) hHeld ?_
        · (intro u _; go_simp)
        (try simp only [Act.put, putA, putB, putC])
        refine late_fr 9 (v := .int .i64 E) rfl (Or.inl ⟨by rfl, ?_⟩) hHeld ?_
        · (intro u _; go_simp)
        (try simp only [Act.put, putA, putB, putC])
        refine late_st 10 rfl (fun K hK => ?_)
        go_simp
        obtain ⟨w44, vx, hw, hv, pvx, b44, B44⟩ := new_pv B43
        rw [hw, hv]
        have hnx := own_ne_top hq
        rw [hv] at hnx
        have hxy : vx ≠ vy := by have := pvy.lt; omega
        clear hw hv
        replace hq := hq.below b44
        replace pvy := pvy.below b44
        replace hHeld := KEEP _ B44
        refine hK.out _ _ (AllL.kept hHeld) ?_
        clear hK K
        (try simp only [Act.put, putA, putB, putC])
        have Bz := B44
       case' t48 =>
        go_simp
        obtain ⟨w45, vx, hw, hv, pvx, b45, B45⟩ := new_pv B42
        rw [hw, hv]
        have hxy : vx ≠ vy := by have := pvy.lt; omega
        clear hw hv
        replace ia := ia.below b45
        replace iu := iu.below b45
        replace pvy := pvy.below b45
        replace hHeld := KEEP _ B45
        refine hK.out _ _ (AllL.kept hHeld) ?_
        clear hK K
        (try simp only [Act.put, putA, putB, putC])
        refine late_st 5 rfl (fun K hK => ?_)
        go_simp
        have hc := rfloor ia iu (by omega)
        rw [HZ.out.1, HZ.out.2.1, HZ.out.2.2] at hc
        refine hc.mono ?_
        rintro e w46 ⟨mq, mr, rfl, hq, hr, hqr, b46⟩
        obtain ⟨mo, ml, mc, rfl⟩ := hq.sl
        obtain ⟨no, nl, nc, rfl⟩ := hr.sl
        clear hc hr
        have hny := own_ne3 hq pvy.lt
        have hnx := own_ne3 hq pvx.lt
        replace hq := hq.mono (B' := W1.heap.size) B45.size
        clear hqr ia iu
        replace pvy := pvy.below b46
        replace pvx := pvx.below b46
        have B46 : Below W1.heap.size W1 w46 := bstep B45 b46
        go_wp2_with fail
        replace hHeld := KEEP _ B46
        refine hK.out _ _ (AllL.kept hHeld) ?_
        clear hK K
        (try simp only [Act.put, putA, putB, putC])
        refine late_fr 6 (v := .tuple #[.agg #[.bool (decide (Z < 0)), .slice mo ml mc], .agg #[.bool (decide (R < 0)), .slice no nl nc], .int .i64 E]) rfl (Or.inl ⟨by rfl, ?_⟩) hHeld ?_
        · (intro u _; go_simp)
        (try simp only [Act.put, putA, putB, putC])
        refine late_fr 7 (v := .agg #[.bool (decide (Z < 0)), .slice mo ml mc]) rfl (Or.inl ⟨by rfl, ?_⟩) hHeld ?_
        · (intro u _; go_simp)
        (try simp only [Act.put, putA, putB, putC])
        refine late_fr 8 (v := .agg #[.bool (decide (R < 0)), .slice no nl nc]) rfl (Or.inl ⟨by rfl, ?_⟩) hHeld ?_
        · (intro u _; go_simp)
        (try simp only [Act.put, putA, putB, putC])
        refine late_fr 9 (v := .int .i64 E) rfl (Or.inl ⟨by rfl, ?_⟩) hHeld ?_
        · (intro u _; go_simp)
        (try simp only [Act.put, putA, putB, putC])
        have Bz := B46
      case' t53 =>
       go_simp
       obtain ⟨w49, vx, hw, hv, pvx, b49, B49⟩ := new_pv B41
       rw [hw, hv]
       have hxy : vx ≠ vy := by have := pvy.lt; omega
       clear hw hv
       replace ia := ia.below b49
       replace nu := nu.below b49
       replace pvy := pvy.below b49
       replace hHeld := KEEP _ B49
       refine hK.out _ _ (AllL.kept hHeld) ?_
       clear hK K
       (try simp only [Act.put, putA, putB, putC])
       refine late_st 4 rfl (fun K hK => ?_)
       go_simp
       have iu := nu.ib
       refine (whole3 _ _ _ _).mono ?_
       rintro e w50 ⟨rfl, b50⟩
       replace iu := iu.below b50
       clear nu
       replace ia := ia.below b50
       replace pvy := pvy.below b50
       replace pvx := pvx.below b50
       have B50 : Below W1.heap.size W1 w50 := bstep B49 b50
       go_wp2_with fail
       replace hHeld := KEEP _ B50
       refine hK.out _ _ (AllL.kept hHeld) ?_
       clear hK K
       (try simp only [Act.put, putA, putB, putC])
       refine late_st 5 rfl (fun K hK => ?_)
       go_simp
       have hc := rfloor ia iu (by omega)
       rw [HZ.out.1, HZ.out.2.1, HZ.out.2.2] at hc
       refine hc.mono ?_
       rintro e w51 ⟨mq, mr, rfl, hq, hr, hqr, b51⟩
       obtain ⟨mo, ml, mc, rfl⟩ := hq.sl
       obtain ⟨no, nl, nc, rfl⟩ := hr.sl
       clear hc hr
       have hny := own_ne3 hq pvy.lt
       have hnx := own_ne3 hq pvx.lt
       replace hq := hq.mono (B' := W1.heap.size) B50.size
       clear hqr ia iu
       replace pvy := pvy.below b51
       replace pvx := pvx.below b51
       have B51 : Below W1.heap.size W1 w51 := bstep B50 b51
       go_wp2_with fail
       replace hHeld := KEEP _ B51
       refine hK.out _ _ (AllL.kept hHeld) ?_
       clear hK K
       (try simp only [Act.put, putA, putB, putC])
       refine late_fr 6 (v := .tuple #[.agg #[.bool (decide (Z < 0)), .slice mo ml mc], .agg #[.bool (decide (R < 0)), .slice no nl nc], .int .i64 E]) rfl (Or.inl ⟨by rfl, ?_⟩) hHeld ?_
       · (intro u _; go_simp)
       (try simp only [Act.put, putA, putB, putC])
       refine late_fr 7 (v := .agg #[.bool (decide (Z < 0)), .slice mo ml mc]) rfl (Or.inl ⟨by rfl, ?_⟩) hHeld ?_
       · (intro u _; go_simp)
       (try simp only [Act.put, putA, putB, putC])
       refine late_fr 8 (v := .agg #[.bool (decide (R < 0)), .slice no nl nc]) rfl (Or.inl ⟨by rfl, ?_⟩) hHeld ?_
       · (intro u _; go_simp)
       (try simp only [Act.put, putA, putB, putC])
       refine late_fr 9 (v := .int .i64 E) rfl (Or.inl ⟨by rfl, ?_⟩) hHeld ?_
       · (intro u _; go_simp)
       (try simp only [Act.put, putA, putB, putC])
       have Bz := B51
    case' t98 =>
     go_simp
     obtain ⟨w57, vx, hw, hv, pvx, b57, B57⟩ := new_pv B0
     rw [hw, hv]
     clear hw hv
     replace ia := ia.below b57
     replace da := da.below b57
     replace hHeld := KEEP _ B57
     refine hK.out _ _ (AllL.kept hHeld) ?_
     clear hK K
     (try simp only [Act.put, putA, putB, putC])
     refine late_two 3 11 (by kernel_rfl) rfl rfl (fun K hK => ?t75) (fun K hK => ?t76)
     case' t75 =>
      go_simp
      refine (den3 (na := na) (ao := ao) (al := al) (ac := ac) da ⟨h1L, by omega⟩).mono ?_
      rintro e w58 ⟨uo, ul, uc, rfl, nu, b58⟩
      clear da
      replace ia := ia.below b58
      replace pvx := pvx.below b58
      have B58 : Below W1.heap.size W1 w58 := bstep B57 b58
      go_wp2_with fail
      replace hHeld := KEEP _ B58
      refine hK.out _ _ (AllL.kept hHeld) ?_
      clear hK K
      (try simp only [Act.put, putA, putB, putC])
      refine late_two 4 11 (by kernel_rfl) rfl rfl (fun K hK => ?t69) (fun K hK => ?t70)
      case' t69 =>
       go_simp
       have iu := nu.ib
       refine (whole3 _ _ _ _).mono ?_
       rintro e w59 ⟨rfl, b59⟩
       replace iu := iu.below b59
       clear nu
       replace ia := ia.below b59
       replace pvx := pvx.below b59
       have B59 : Below W1.heap.size W1 w59 := bstep B58 b59
       go_wp2_with fail
       replace hHeld := KEEP _ B59
       refine hK.out _ _ (AllL.kept hHeld) ?_
       clear hK K
       (try simp only [Act.put, putA, putB, putC])
       refine late_two 5 11 (by kernel_rfl) rfl rfl (fun K hK => ?t64) (fun K hK => ?t65)
       case' t64 =>
        go_simp
        have hc := rfloor ia iu (by omega)
        rw [HZ.out.1, HZ.out.2.1, HZ.out.2.2] at hc
        refine hc.mono ?_
        rintro e w60 ⟨mq, mr, rfl, hq, hr, hqr, b60⟩
        obtain ⟨mo, ml, mc, rfl⟩ := hq.sl
        obtain ⟨no, nl, nc, rfl⟩ := hr.sl
        clear hc hr
        have hnx := own_ne3 hq pvx.lt
        replace hq := hq.mono (B' := W1.heap.size) B59.size
        clear hqr ia iu
        replace pvx := pvx.below b60
        have B60 : Below W1.heap.size W1 w60 := bstep B59 b60
        go_wp2_with fail
        replace hHeld := KEEP _ B60
        refine hK.out _ _ (AllL.kept hHeld) ?_
        clear hK K
        (try simp only [Act.put, putA, putB, putC])
        refine late_fr 6 (v := .tuple #[.agg #[.bool (decide (Z < 0)), .slice mo ml mc], .agg #[.bool (decide (R < 0)), .slice no nl nc], .int .i64 E]) rfl (Or.inl ⟨by rfl, ?_⟩) hHeld ?_
        · (intro u _; go_simp)
        (try simp only [Act.put, putA, putB, putC])
        refine late_fr 7 (v := .agg #[.bool (decide (Z < 0)), .slice mo ml mc]) rfl (Or.inl ⟨by rfl, ?_⟩) hHeld ?_
        · (intro u _; go_simp)
        (try simp only [Act.put, putA, putB, putC])
        refine late_fr 8 (v := .agg #[.bool (decide (R < 0)), .slice no nl nc]) rfl (Or.inl ⟨by rfl, ?_⟩) hHeld ?_
        · (intro u _; go_simp)
        (try simp only [Act.put, putA, putB, putC])
        refine late_fr 9 (v := .int .i64 E) rfl (Or.inl ⟨by rfl, ?_⟩) hHeld ?_
        · (intro u _; go_simp)
        (try simp only [Act.put, putA, putB, putC])
        refine late_st 11 rfl (fun K hK => ?_)
        go_simp
        obtain ⟨w61, vy, hw, hv, pvy, b61, B61⟩ := new_pv B60
        rw [hw, hv]
        have hny := own_ne_top hq
        rw [hv] at hny
        have hxy : vx ≠ vy := by have := pvx.lt; omega
        clear hw hv
        replace hq := hq.below b61
        replace pvx := pvx.below b61
        replace hHeld := KEEP _ B61
        refine hK.out _ _ (AllL.kept hHeld) ?_
        clear hK K
        (try simp only [Act.put, putA, putB, putC])
        have Bz := B61
       case' t65 =>
        go_simp
        obtain ⟨w62, vy, hw, hv, pvy, b62, B62⟩ := new_pv B59
        rw [hw, hv]
        have hxy : vx ≠ vy := by have := pvx.lt; omega
        clear hw hv
        replace ia := ia.below b62
        replace iu := iu.below b62
        replace pvx := pvx.below b62
        replace hHeld := KEEP _ B62
        refine hK.out _ _ (AllL.kept hHeld) ?_
        clear hK K
        (try simp only [Act.put, putA, putB, putC])
        refine late_st 5 rfl (fun K hK => ?_)
        go_simp
        have hc := rfloor ia iu (by omega)
        rw [HZ.out.1, HZ.out.2.1, HZ.out.2.2] at hc
        refine hc.mono ?_
        rintro e w63 ⟨mq, mr, rfl, hq, hr, hqr, b63⟩
        obtain ⟨mo, ml, mc, rfl⟩ := hq.sl
        obtain ⟨no, nl, nc, rfl⟩ := hr.sl
        clear hc hr
        have hnx := own_ne3 hq pvx.lt
        have hny := own_ne3 hq pvy.lt
        replace hq := hq.mono (B' := W1.heap.size) B62.size
        clear hqr ia iu
        replace pvx := pvx.below b63
        replace pvy := pvy.below b63
        have B63 : Below W1.heap.size W1 w63 := bstep B62 b63
        go_wp2_with fail
        replace hHeld := KEEP _ B63
        refine hK.out _ _ (AllL.kept hHeld) ?_
        clear hK K
        (try simp only [Act.put, putA, putB, putC])
        refine late_fr 6 (v := .tuple #[.agg #[.bool (decide (Z < 0)), .slice mo ml mc], .agg #[.bool (decide (R < 0)), .slice no nl nc], .int .i64 E]) rfl (Or.inl ⟨by rfl, ?_⟩) hHeld ?_
        · (intro u _; go_simp)
        (try simp only [Act.put, putA, putB, putC])
        refine late_fr 7 (v := .agg #[.bool (decide (Z < 0)), .slice mo ml mc]) rfl (Or.inl ⟨by rfl, ?_⟩) hHeld ?_
        · (intro u _; go_simp)
        (try simp only [Act.put, putA, putB, putC])
        refine late_fr 8 (v := .agg #[.bool (decide (R < 0)), .slice no nl nc]) rfl (Or.inl ⟨by rfl, ?_⟩) hHeld ?_
        · (intro u _; go_simp)
        (try simp only [Act.put, putA, putB, putC])
        refine late_fr 9 (v := .int .i64 E) rfl (Or.inl ⟨by rfl, ?_⟩) hHeld ?_
        · (intro u _; go_simp)
        (try simp only [Act.put, putA, putB, putC])
        have Bz := B63
      case' t70 =>
       go_simp
       obtain ⟨w66, vy, hw, hv, pvy, b66, B66⟩ := new_pv B58
       rw [hw, hv]
       have hxy : vx ≠ vy := by have := pvx.lt; omega
       clear hw hv
       replace ia := ia.below b66
       replace nu := nu.below b66
       replace pvx := pvx.below b66
       replace hHeld := KEEP _ B66
       refine hK.out _ _ (AllL.kept hHeld) ?_
       clear hK K
       (try simp only [Act.put, putA, putB, putC])
       refine late_st 4 rfl (fun K hK => ?_)
       go_simp
       have iu := nu.ib
       refine (whole3 _ _ _ _).mono ?_
       rintro e w67 ⟨rfl, b67⟩
       replace iu := iu.below b67
       clear nu
       replace ia := ia.below b67
       replace pvx := pvx.below b67
       replace pvy := pvy.below b67
       have B67 : Below W1.heap.size W1 w67 := bstep B66 b67
       go_wp2_with fail
       replace hHeld := KEEP _ B67
       refine hK.out _ _ (AllL.kept hHeld) ?_
       clear hK K
       (try simp only [Act.put, putA, putB, putC])
       refine late_st 5 rfl (fun K hK => ?_)
       go_simp
       have hc := rfloor ia iu (by omega)
       rw [HZ.out.1, HZ.out.2.1, HZ.out.2.2] at hc
       refine hc.mono ?_
       rintro e w68 ⟨mq, mr, rfl, hq, hr, hqr, b68⟩
       obtain ⟨mo, ml, mc, rfl⟩ := hq.sl
       obtain ⟨no, nl, nc, rfl⟩ := hr.sl
       clear hc hr
       have hnx := own_ne3 hq pvx.lt
       have hny := own_ne3 hq pvy.lt
       replace hq := hq.mono (B' := W1.heap.size) B67.size
       clear hqr ia iu
       replace pvx := pvx.below b68
       replace pvy := pvy.below b68
       have B68 : Below W1.heap.size W1 w68 := bstep B67 b68
       go_wp2_with fail
       replace hHeld := KEEP _ B68
       refine hK.out _ _ (AllL.kept hHeld) ?_
       clear hK K
       (try simp only [Act.put, putA, putB, putC])
       refine late_fr 6 (v := .tuple #[.agg #[.bool (decide (Z < 0)), .slice mo ml mc], .agg #[.bool (decide (R < 0)), .slice no nl nc], .int .i64 E]) rfl (Or.inl ⟨by rfl, ?_⟩) hHeld ?_
       · (intro u _; go_simp)
       (try simp only [Act.put, putA, putB, putC])
       refine late_fr 7 (v := .agg #[.bool (decide (Z < 0)), .slice mo ml mc]) rfl (Or.inl ⟨by rfl, ?_⟩) hHeld ?_
       · (intro u _; go_simp)
       (try simp only [Act.put, putA, putB, putC])
       refine late_fr 8 (v := .agg #[.bool (decide (R < 0)), .slice no nl nc]) rfl (Or.inl ⟨by rfl, ?_⟩) hHeld ?_
       · (intro u _; go_simp)
       (try simp only [Act.put, putA, putB, putC])
       refine late_fr 9 (v := .int .i64 E) rfl (Or.inl ⟨by rfl, ?_⟩) hHeld ?_
       · (intro u _; go_simp)
       (try simp only [Act.put, putA, putB, putC])
       have Bz := B68
     case' t76 =>
      go_simp
      obtain ⟨w71, vy, hw, hv, pvy, b71, B71⟩ := new_pv B57
      rw [hw, hv]
      have hxy : vx ≠ vy := by have := pvx.lt; omega
      clear hw hv
      replace ia := ia.below b71
      replace da := da.below b71
      replace pvx := pvx.below b71
      replace hHeld := KEEP _ B71
      refine hK.out _ _ (AllL.kept hHeld) ?_
      clear hK K
      (try simp only [Act.put, putA, putB, putC])
      refine late_st 3 rfl (fun K hK => ?_)
      go_simp
      refine (den3 (na := na) (ao := ao) (al := al) (ac := ac) da ⟨h1L, by omega⟩).mono ?_
      rintro e w72 ⟨uo, ul, uc, rfl, nu, b72⟩
      clear da
      replace ia := ia.below b72
      replace pvx := pvx.below b72
      replace pvy := pvy.below b72
      have B72 : Below W1.heap.size W1 w72 := bstep B71 b72
      go_wp2_with fail
      replace hHeld := KEEP _ B72
      refine hK.out _ _ (AllL.kept hHeld) ?_
      clear hK K
      (try simp only [Act.put, putA, putB, putC])
      refine late_st 4 rfl (fun K hK => ?_)
      go_simp
      have iu := nu.ib
      refine (whole3 _ _ _ _).mono ?_
      rintro e w73 ⟨rfl, b73⟩
      replace iu := iu.below b73
      clear nu
      replace ia := ia.below b73
      replace pvx := pvx.below b73
      replace pvy := pvy.below b73
      have B73 : Below W1.heap.size W1 w73 := bstep B72 b73
      go_wp2_with fail
      replace hHeld := KEEP _ B73
      refine hK.out _ _ (AllL.kept hHeld) ?_
      clear hK K
      (try simp only [Act.put, putA, putB, putC])
      refine late_st 5 rfl (fun K hK => ?_)
      go_simp
      have hc := rfloor ia iu (by omega)
      rw [HZ.out.1, HZ.out.2.1, HZ.out.2.2] at hc
      refine hc.mono ?_
      rintro e w74 ⟨mq, mr, rfl, hq, hr, hqr, b74⟩
      obtain ⟨mo, ml, mc, rfl⟩ := hq.sl
      obtain ⟨no, nl, nc, rfl⟩ := hr.sl
      clear hc hr
      have hnx := own_ne3 hq pvx.lt
      have hny := own_ne3 hq pvy.lt
      replace hq := hq.mono (B' := W1.heap.size) B73.size
      clear hqr ia iu
      replace pvx := pvx.below b74
      replace pvy := pvy.below b74
      have B74 : Below W1.heap.size W1 w74 := bstep B73 b74
      go_wp2_with fail
      replace hHeld := KEEP _ B74
      refine hK.out _ _ (AllL.kept hHeld) ?_
      clear hK K
      (try simp only [Act.put, putA, putB, putC])
      refine late_fr 6 (v := .tuple #[.agg #[.bool (decide (Z < 0)), .slice mo ml mc], .agg #[.bool (decide (R < 0)), .slice no nl nc], .int .i64 E]) rfl (Or.inl ⟨by rfl, ?_⟩) hHeld ?_
      · (intro u _; go_simp)
      (try simp only [Act.put, putA, putB, putC])
      refine late_fr 7 (v := .agg #[.bool (decide (Z < 0)), .slice mo ml mc]) rfl (Or.inl ⟨by rfl, ?_⟩) hHeld ?_
      · (intro u _; go_simp)
      (try simp only [Act.put, putA, putB, putC])
      refine late_fr 8 (v := .agg #[.bool (decide (R < 0)), .slice no nl nc]) rfl (Or.inl ⟨by rfl, ?_⟩) hHeld ?_
      · (intro u _; go_simp)
      (try simp only [Act.put, putA, putB, putC])
      refine late_fr 9 (v := .int .i64 E) rfl (Or.inl ⟨by rfl, ?_⟩) hHeld ?_
      · (intro u _; go_simp)
      (try simp only [Act.put, putA, putB, putC])
      have Bz := B74
    case' t99 =>
     go_simp
     obtain ⟨w77, vy, hw, hv, pvy, b77, B77⟩ := new_pv B0
     rw [hw, hv]
     clear hw hv
     replace ia := ia.below b77
     replace da := da.below b77
     replace hHeld := KEEP _ B77
     refine hK.out _ _ (AllL.kept hHeld) ?_
     clear hK K
     (try simp only [Act.put, putA, putB, putC])
     refine late_two 3 10 (by kernel_rfl) rfl rfl (fun K hK => ?t95) (fun K hK => ?t96)
     case' t95 =>
      go_simp
      refine (den3 (na := na) (ao := ao) (al := al) (ac := ac) da ⟨h1L, by omega⟩).mono ?_
      rintro e w78 ⟨uo, ul, uc, rfl, nu, b78⟩
      clear da
      replace ia := ia.below b78
      replace pvy := pvy.below b78
      have B78 : Below W1.heap.size W1 w78 := bstep B77 b78
      go_wp2_with fail
      replace hHeld := KEEP _ B78
      refine hK.out _ _ (AllL.kept hHeld) ?_
      clear hK K
      (try simp only [Act.put, putA, putB, putC])
      refine late_two 4 10 (by kernel_rfl) rfl rfl (fun K hK => ?t89) (fun K hK => ?t90)
      case' t89 =>
       go_simp
       have iu := nu.ib
       refine (whole3 _ _ _ _).mono ?_
       rintro e w79 ⟨rfl, b79⟩
       replace iu := iu.below b79
       clear nu
       replace ia := ia.below b79
       replace pvy := pvy.below b79
       have B79 : Below W1.heap.size W1 w79 := bstep B78 b79
       go_wp2_with fail
       replace hHeld := KEEP _ B79
       refine hK.out _ _ (AllL.kept hHeld) ?_
       clear hK K
       (try simp only [Act.put, putA, putB, putC])
       refine late_two 5 10 (by kernel_rfl) rfl rfl (fun K hK => ?t84) (fun K hK => ?t85)
       case' t84 =>
        go_simp
        have hc := rfloor ia iu (by omega)
        rw [HZ.out.1, HZ.out.2.1, HZ.out.2.2] at hc
        refine hc.mono ?_
        rintro e w80 ⟨mq, mr, rfl, hq, hr, hqr, b80⟩
        obtain ⟨mo, ml, mc, rfl⟩ := hq.sl
        obtain ⟨no, nl, nc, rfl⟩ := hr.sl
        clear hc hr
        have hny := own_ne3 hq pvy.lt
        replace hq := hq.mono (B' := W1.heap.size) B79.size
        clear hqr ia iu
        replace pvy := pvy.below b80
        have B80 : Below W1.heap.size W1 w80 := bstep B79 b80
        go_wp2_with fail
        replace hHeld := KEEP _ B80
        refine hK.out _ _ (AllL.kept hHeld) ?_
        clear hK K
        (try simp only [Act.put, putA, putB, putC])
        refine late_fr 6 (v := .tuple #[.agg #[.bool (decide (Z < 0)), .slice mo ml mc], .agg #[.bool (decide (R < 0)), .slice no nl nc], .int .i64 E]) rfl (Or.inl ⟨by rfl, ?_⟩) hHeld ?_
        · (intro u _; go_simp)
        (try simp only [Act.put, putA, putB, putC])
        refine late_fr 7 (v := .agg #[.bool (decide (Z < 0)), .slice mo ml mc]) rfl (Or.inl ⟨by rfl, ?_⟩) hHeld ?_
        · (intro u _; go_simp)
        (try simp only [Act.put, putA, putB, putC])
        refine late_fr 8 (v := .agg #[.bool (decide (R < 0)), .slice no nl nc]) rfl (Or.inl ⟨by rfl, ?_⟩) hHeld ?_
        · (intro u _; go_simp)
        (try simp only [Act.put, putA, putB, putC])
        refine late_fr 9 (v := .int .i64 E) rfl (Or.inl ⟨by rfl, ?_⟩) hHeld ?_
        · (intro u _; go_simp)
        (try simp only [Act.put, putA, putB, putC])
        refine late_st 10 rfl (fun K hK => ?_)
        go_simp
        obtain ⟨w81, vx, hw, hv, pvx, b81, B81⟩ := new_pv B80
        rw [hw, hv]
        have hnx := own_ne_top hq
        rw [hv] at hnx
        have hxy : vx ≠ vy := by have := pvy.lt; omega
        clear hw hv
        replace hq := hq.below b81
        replace pvy := pvy.below b81
        replace hHeld := KEEP _ B81
        refine hK.out _ _ (AllL.kept hHeld) ?_
        clear hK K
        (try simp only [Act.put, putA, putB, putC])
        have Bz := B81
       case' t85 =>
        go_simp
        obtain ⟨w82, vx, hw, hv, pvx, b82, B82⟩ := new_pv B79
        rw [hw, hv]
        have hxy : vx ≠ vy := by have := pvy.lt; omega
        clear hw hv
        replace ia := ia.below b82
        replace iu := iu.below b82
        replace pvy := pvy.below b82
        replace hHeld := KEEP _ B82
        refine hK.out _ _ (AllL.kept hHeld) ?_
        clear hK K
        (try simp only [Act.put, putA, putB, putC])
        refine late_st 5 rfl (fun K hK => ?_)
        go_simp
        have hc := rfloor ia iu (by omega)
        rw [HZ.out.1, HZ.out.2.1, HZ.out.2.2] at hc
        refine hc.mono ?_
        rintro e w83 ⟨mq, mr, rfl, hq, hr, hqr, b83⟩
        obtain ⟨mo, ml, mc, rfl⟩ := hq.sl
        obtain ⟨no, nl, nc, rfl⟩ := hr.sl
        clear hc hr
        have hny := own_ne3 hq pvy.lt
        have hnx := own_ne3 hq pvx.lt
        replace hq := hq.mono (B' := W1.heap.size) B82.size
        clear hqr ia iu
        replace pvy := pvy.below b83
        replace pvx := pvx.below b83
        have B83 : Below W1.heap.size W1 w83 := bstep B82 b83
        go_wp2_with fail
        replace hHeld := KEEP _ B83
        refine hK.out _ _ (AllL.kept hHeld) ?_
        clear hK K
        (try simp only [Act.put, putA, putB, putC])
        refine late_fr 6 (v := .tuple #[.agg #[.bool (decide (Z < 0)), .slice mo ml mc], .agg #[.bool (decide (R < 0)), .slice no nl nc], .int .i64 E]) rfl (Or.inl ⟨by rfl, ?_⟩) hHeld ?_
        · (intro u _; go_simp)
        (try simp only [Act.put, putA, putB, putC])
        refine late_fr 7 (v := .agg #[.bool (decide (Z < 0)), .slice mo ml mc]) rfl (Or.inl ⟨by rfl, ?_⟩) hHeld ?_
        · (intro u _; go_simp)
        (try simp only [Act.put, putA, putB, putC])
        refine late_fr 8 (v := .agg #[.bool (decide (R < 0)), .slice no nl nc]) rfl (Or.inl ⟨by rfl, ?_⟩) hHeld ?_
        · (intro u _; go_simp)
        (try simp only [Act.put, putA, putB, putC])
        refine late_fr 9 (v := .int .i64 E) rfl (Or.inl ⟨by rfl, ?_⟩) hHeld ?_
        · (intro u _; go_simp)
        (try simp only [Act.put, putA, putB, putC])
        have Bz := B83
      case' t90 =>
       go_simp
       obtain ⟨w86, vx, hw, hv, pvx, b86, B86⟩ := new_pv B78
       rw [hw, hv]
       have hxy : vx ≠ vy := by have := pvy.lt; omega
       clear hw hv
       replace ia := ia.below b86
       replace nu := nu.below b86
       replace pvy := pvy.below b86
       replace hHeld := KEEP _ B86
       refine hK.out _ _ (AllL.kept hHeld) ?_
       clear hK K
       (try simp only [Act.put, putA, putB, putC])
       refine late_st 4 rfl (fun K hK => ?_)
       go_simp
       have iu := nu.ib
       refine (whole3 _ _ _ _).mono ?_
       rintro e w87 ⟨rfl, b87⟩
       replace iu := iu.below b87
       clear nu
       replace ia := ia.below b87
       replace pvy := pvy.below b87
       replace pvx := pvx.below b87
       have B87 : Below W1.heap.size W1 w87 := bstep B86 b87
       go_wp2_with fail
       replace hHeld := KEEP _ B87
       refine hK.out _ _ (AllL.kept hHeld) ?_
       clear hK K
       (try simp only [Act.put, putA, putB, putC])
       refine late_st 5 rfl (fun K hK => ?_)
       go_simp
       have hc := rfloor ia iu (by omega)
       rw [HZ.out.1, HZ.out.2.1, HZ.out.2.2] at hc
       refine hc.mono ?_
       rintro e w88 ⟨mq, mr, rfl, hq, hr, hqr, b88⟩
       obtain ⟨mo, ml, mc, rfl⟩ := hq.sl
       obtain ⟨no, nl, nc, rfl⟩ := hr.sl
       clear hc hr
       have hny := own_ne3 hq pvy.lt
       have hnx := own_ne3 hq pvx.lt
       replace hq := hq.mono (B' := W1.heap.size) B87.size
       clear hqr ia iu
       replace pvy := pvy.below b88
       replace pvx := pvx.below b88
       have B88 : Below W1.heap.size W1 w88 := bstep B87 b88
       go_wp2_with fail
       replace hHeld := KEEP _ B88
       refine hK.out _ _ (AllL.kept hHeld) ?_
       clear hK K
       (try simp only [Act.put, putA, putB, putC])
       refine late_fr 6 (v := .tuple #[.agg #[.bool (decide (Z < 0)), .slice mo ml mc], .agg #[.bool (decide (R < 0)), .slice no nl nc], .int .i64 E]) rfl (Or.inl ⟨by rfl, ?_⟩) hHeld ?_
       · (intro u _; go_simp)
       (try simp only [Act.put, putA, putB, putC])
       refine late_fr 7 (v := .agg #[.bool (decide (Z < 0)), .slice mo ml mc]) rfl (Or.inl ⟨by rfl, ?_⟩) hHeld ?_
       · (intro u _; go_simp)
       (try simp only [Act.put, putA, putB, putC])
       refine late_fr 8 (v := .agg #[.bool (decide (R < 0)), .slice no nl nc]) rfl (Or.inl ⟨by rfl, ?_⟩) hHeld ?_
       · (intro u _; go_simp)
       (try simp only [Act.put, putA, putB, putC])
       refine late_fr 9 (v := .int .i64 E) rfl (Or.inl ⟨by rfl, ?_⟩) hHeld ?_
       · (intro u _; go_simp)
       (try simp only [Act.put, putA, putB, putC])
       have Bz := B88
     case' t96 =>
      go_simp
      obtain ⟨w91, vx, hw, hv, pvx, b91, B91⟩ := new_pv B77
      rw [hw, hv]
      have hxy : vx ≠ vy := by have := pvy.lt; omega
      clear hw hv
      replace ia := ia.below b91
      replace da := da.below b91
      replace pvy := pvy.below b91
      replace hHeld := KEEP _ B91
      refine hK.out _ _ (AllL.kept hHeld) ?_
      clear hK K
      (try simp only [Act.put, putA, putB, putC])
      refine late_st 3 rfl (fun K hK => ?_)
      go_simp
      refine (den3 (na := na) (ao := ao) (al := al) (ac := ac) da ⟨h1L, by omega⟩).mono ?_
      rintro e w92 ⟨uo, ul, uc, rfl, nu, b92⟩
      clear da
      replace ia := ia.below b92
      replace pvy := pvy.below b92
      replace pvx := pvx.below b92
      have B92 : Below W1.heap.size W1 w92 := bstep B91 b92
      go_wp2_with fail
      replace hHeld := KEEP _ B92
      refine hK.out _ _ (AllL.kept hHeld) ?_
      clear hK K
      (try simp only [Act.put, putA, putB, putC])
      refine late_st 4 rfl (fun K hK => ?_)
      go_simp
      have iu := nu.ib
      refine (whole3 _ _ _ _).mono ?_
      rintro e w93 ⟨rfl, b93⟩
      replace iu := iu.below b93
      clear nu
      replace ia := ia.below b93
      replace pvy := pvy.below b93
      replace pvx := pvx.below b93
      have B93 : Below W1.heap.size W1 w93 := bstep B92 b93
      go_wp2_with fail
      replace hHeld := KEEP _ B93
      refine hK.out _ _ (AllL.kept hHeld) ?_
      clear hK K
      (try simp only [Act.put, putA, putB, putC])
      refine late_st 5 rfl (fun K hK => ?_)
      go_simp
      have hc := rfloor ia iu (by omega)
      rw [HZ.out.1, HZ.out.2.1, HZ.out.2.2] at hc
      refine hc.mono ?_
      rintro e w94 ⟨mq, mr, rfl, hq, hr, hqr, b94⟩
      obtain ⟨mo, ml, mc, rfl⟩ := hq.sl
      obtain ⟨no, nl, nc, rfl⟩ := hr.sl
      clear hc hr
      have hny := own_ne3 hq pvy.lt
      have hnx := own_ne3 hq pvx.lt
      replace hq := hq.mono (B' := W1.heap.size) B93.size
      clear hqr ia iu
      replace pvy := pvy.below b94
      replace pvx := pvx.below b94
      have B94 : Below W1.heap.size W1 w94 := bstep B93 b94
      go_wp2_with fail
      replace hHeld := KEEP _ B94
      refine hK.out _ _ (AllL.kept hHeld) ?_
      clear hK K
      (try simp only [Act.put, putA, putB, putC])
      refine late_fr 6 (v := .tuple #[.agg #[.bool (decide (Z < 0)), .slice mo ml mc], .agg #[.bool (decide (R < 0)), .slice no nl nc], .int .i64 E]) rfl (Or.inl ⟨by rfl, ?_⟩) hHeld ?_
      · (intro u _; go_simp)
      (try simp only [Act.put, putA, putB, putC])
      refine late_fr 7 (v := .agg #[.bool (decide (Z < 0)), .slice mo ml mc]) rfl (Or.inl ⟨by rfl, ?_⟩) hHeld ?_
      · (intro u _; go_simp)
      (try simp only [Act.put, putA, putB, putC])
      refine late_fr 8 (v := .agg #[.bool (decide (R < 0)), .slice no nl nc]) rfl (Or.inl ⟨by rfl, ?_⟩) hHeld ?_
      · (intro u _; go_simp)
      (try simp only [Act.put, putA, putB, putC])
      refine late_fr 9 (v := .int .i64 E) rfl (Or.inl ⟨by rfl, ?_⟩) hHeld ?_
      · (intro u _; go_simp)
      (try simp only [Act.put, putA, putB, putC])
      have Bz := B94
    all_goals
      have hyx : ¬ vy = vx := fun e => hxy e.symm
      have HIB : Hid (FlE W1 _ vx (decide (Z < 0)) (.slice mo ml mc) (lim Z.natAbs)) := fl_end (b2 := decide (R < 0)) (m2 := .slice no nl nc) pvx pvy hxy hq hnx hny Bz
      obtain ⟨y0, y1⟩ := pvx.c.cells
      have f0 := pvx.c.thaw 0
      have f1 := pvx.c.thaw 1
      obtain ⟨y2, y3⟩ := pvy.c.cells
      have f2 := pvy.c.thaw 0
      have f3 := pvy.c.thaw 1
      clear hq hnx hny pvx pvy
      generalize decide (Z < 0) = bZ at *
      generalize decide (R < 0) = bR at *
      refine late_st 12 rfl (fun K hK => ?_)
      go_simp
      refine hK.out _ _ ⟨kpt 5, kpt 3, trivial⟩ ?_
      clear hK K
      (try simp only [Act.put, putA, putB, putC])
      refine late_st 13 rfl (fun K hK => ?_)
      go_simp
      refine hK.out _ _ ⟨kpt 5, kpt 3, trivial⟩ ?_
      clear hK K
      (try simp only [Act.put, putA, putB, putC])
      refine late_st 14 rfl (fun K hK => ?_)
      go_simp
      refine hK.out _ _ ⟨kpt 5, kpt 3, trivial⟩ ?_
      clear hK K
      (try simp only [Act.put, putA, putB, putC])
      refine late_done (by kernel_rfl) ?_ _
      clear hHeld y0 y1 y2 y3 f0 f1 f2 f3 hxy hyx
      go_wp2_with fail
      go_meet
      exact ⟨_, _, _, _, _, rfl, HIB.out.1, ⟨rfl, HIB.out.2.1⟩, HIB.out.2.2⟩
  case rest =>
    obtain ⟨vx, nx, xo, xl, xc, rfl, px, ⟨rfl, hx⟩, b⟩ := hcut
    have qr := qR.below b
    obtain ⟨c0, c1⟩ := px.cells
    obtain ⟨y0, y1⟩ := qr.cells
    have f0 := qr.thaw 0
    have f1 := qr.thaw 1
    have HE : Hid (IEnd w Z (.returned (.agg #[.bool (decide (Z < 0)), .slice xo xl xc])) ((wc.setCell ⟨g + 1, 0, none⟩ (.bool (decide (Z < 0)))).setCell ⟨g + 1, 1, none⟩ (.slice xo xl xc))) := (int_done rfl (by rw [HG.out]; omega) hx hsz (bstep hb b)).i
    have HW : Hid (ICell ((wc.setCell ⟨g + 1, 0, none⟩ (.bool (decide (Z < 0)))).setCell ⟨g + 1, 1, none⟩ (.slice xo xl xc)) (g + 1) (decide (Z < 0)) (.slice xo xl xc)) := qr.write _ _
    generalize decide (Z < 0) = bb at *
    clear hx px qr qR qa ia da hraw hb hsz b
    go_wp2_with fail
    (try simp only [Exit.inBlock, Exit.then])
    exact bodyPost_ret (results_cell_row rfl _ _ (g + 1) 25 _ (0, 0) _ rfl HW.out Tryz.underlying25 rfl (by kernel_rfl)) rfl HE.out
end Go.Proofs.YtfnafgjnimfmjaaGreatDoor
