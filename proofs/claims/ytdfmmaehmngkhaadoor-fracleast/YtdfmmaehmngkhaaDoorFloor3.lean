/-
  Proved here: what Floor of package frac and of the document's layer 3 answer.
-/
import Derived.Test.YtdfmmaehmngkhaaDoorRFloorAll
namespace Go.Proofs.YtdfmmaehmngkhaaDoor
open Go.RowKit
attribute [local go_sem ↓] Go.wp_at_zero Go.wp_at_succ

section
variable {P : Program} {l : List Oper} {Q : Exit → Act → World → Prop} {md : Region.Mode} {L : List (Nat × (World → Prop))}
/-- Number i, j or k may come up. -/
theorem late_three (i j k : Nat) {o o2 o3 : Oper} {n : Nat} {done : Array Bool} {a : Act} {w : World} (hr : Region.ready md l.toArray done = [i, j, k]) (ho : l[i]? = some o) (ho2 : l[j]? = some o2) (ho3 : l[k]? = some o3)
    (h : ∀ K' : Act → World → Prop, Shut (∀ b u, Kept md l.toArray (done.setIfInBounds i true) u L → wpLate P md l.toArray Q L n (done.setIfInBounds i true) b u → K' b u) → if Region.wanted o (yielded l.toArray a.tmps) = true then Oper.wp P o a w K' Q else K' (a.put o.dst undef) w)
    (h2 : ∀ K' : Act → World → Prop, Shut (∀ b u, Kept md l.toArray (done.setIfInBounds j true) u L → wpLate P md l.toArray Q L n (done.setIfInBounds j true) b u → K' b u) → if Region.wanted o2 (yielded l.toArray a.tmps) = true then Oper.wp P o2 a w K' Q else K' (a.put o2.dst undef) w)
    (h3 : ∀ K' : Act → World → Prop, Shut (∀ b u, Kept md l.toArray (done.setIfInBounds k true) u L → wpLate P md l.toArray Q L n (done.setIfInBounds k true) b u → K' b u) → if Region.wanted o3 (yielded l.toArray a.tmps) = true then Oper.wp P o3 a w K' Q else K' (a.put o3.dst undef) w) :
    wpLate P md l.toArray Q L (n + 1) done a w := by
  constructor
  · intro h0; rw [h0] at hr; cases hr
  · intro m hm
    rw [hr] at hm
    rcases List.mem_cons.1 hm with e | hm
    · subst e
      exact wpOp_step (by rw [List.getElem?_toArray]; exact ho) (fun K' hK => h K' (fun b u h1 h2 => hK b u ⟨h1, h2⟩))
    · rcases List.mem_cons.1 hm with e | hm
      · subst e
        exact wpOp_step (by rw [List.getElem?_toArray]; exact ho2) (fun K' hK => h2 K' (fun b u h1 h2 => hK b u ⟨h1, h2⟩))
      · rw [List.mem_singleton] at hm
        subst hm
        exact wpOp_step (by rw [List.getElem?_toArray]; exact ho3) (fun K' hK => h3 K' (fun b u h1 h2 => hK b u ⟨h1, h2⟩))
end
/-- A variable made within the region. -/
structure PV (W1 w : World) (v : Nat) : Prop where
  c : ICell w v false (.slice none 0 0)
  lt : v < w.heap.size
  ge : W1.heap.size ≤ v
theorem PV.below {W1 w w' : World} {v : Nat} (h : PV W1 w v) (hb : Below w.heap.size w w') : PV W1 w' v := ⟨h.c.below hb, Nat.lt_of_lt_of_le h.lt hb.size, h.ge⟩
theorem new_pv {W1 c : World} (B : Below W1.heap.size W1 c) : ∃ wn v, c.alloc (.cells #[.bool false, .slice none 0 0] 25) = wn ∧ c.heap.size = v ∧ PV W1 wn v ∧ Below c.heap.size c wn ∧ Below W1.heap.size W1 wn :=
  ⟨_, _, rfl, rfl, ⟨icell_new _ rfl, by simp, B.size⟩, belowA _ _, bstep B (belowA _ _)⟩
/-- What the region leaves. -/
def FlE (W1 w : World) (v : Nat) (b : Bool) (m : Value) (xs : List Nat) : Prop := ICell w v b m ∧ Own W1.heap.size 68 w m xs ∧ Below W1.heap.size W1 w
theorem fl_end {W1 c : World} {vx vy : Nat} {m m2 : Value} {b b2 : Bool} {xs : List Nat} (hx : PV W1 c vx) (hy : PV W1 c vy) (hxy : vx ≠ vy) (hq : Own W1.heap.size 68 c m xs) (hnx : m.ownBlock = none ∨ m.ownBlock ≠ some vx) (hny : m.ownBlock = none ∨ m.ownBlock ≠ some vy) (B : Below W1.heap.size W1 c) :
    FlE W1 ((((c.setCell ⟨vx, 0, none⟩ (.bool b)).setCell ⟨vx, 1, none⟩ m).setCell ⟨vy, 0, none⟩ (.bool b2)).setCell ⟨vy, 1, none⟩ m2) vx b m xs :=
  ⟨(icell_two hx.c hy.c hxy).1, own_put (own_put hq hnx) hny, (((B.setCell (p := ⟨vx, 0, none⟩) hx.ge _).setCell (p := ⟨vx, 1, none⟩) hx.ge _).setCell (p := ⟨vy, 0, none⟩) hy.ge _).setCell (p := ⟨vy, 1, none⟩) hy.ge _⟩
theorem NB.raw {w : World} {n : Bool} {ao bo : Option Addr} {al ac bl bc : Nat} {p : Int} {q L : Nat} (h : IB w (.agg #[.bool n, .slice ao al ac]) p L) (hd : NB w (.slice bo bl bc) (q : Int) L) (hL : L ≤ 1000000) : RRaw w (.agg #[.bool n, .slice ao al ac, .slice bo bl bc]) p q := by
  obtain ⟨o, l, c, xs, e, h1, h2, h3⟩ := hd
  cases e
  exact ⟨_, _, _, _, _, _, _, _, rfl, h.num hL, h1, Nat.le_trans h2 hL, by omega⟩
set_option maxRecDepth 100000 in
set_option maxHeartbeats 6400000 in
theorem floorF {p : Int} {q L : Nat} (na : Bool) (ao aO : Option Addr) (al ac aL aC : Nat) {w : World} (ia : IB w (.agg #[.bool na, .slice ao al ac]) p L) (da : NB w (.slice aO aL aC) (q : Int) L) (hL : L ≤ 140) : Calls Tryd.prog 16 #[.agg #[.bool na, .slice ao al ac, .slice aO aL aC]] w fun e w' => IEnd w (fq p (und q)) e w' := by
  have hraw := NB.raw ia da (by omega)
  obtain ⟨Z, hZ⟩ : ∃ Z, Z = fq p (und q) := ⟨_, rfl⟩
  obtain ⟨R, hR⟩ : ∃ R, R = fr p (und q) := ⟨_, rfl⟩
  obtain ⟨E, hE⟩ : ∃ E, E = errZ (und q).natAbs := ⟨_, rfl⟩
  rw [← hZ]
  have HZ : Hid (fq p (und q) = Z ∧ fr p (und q) = R ∧ errZ (und q).natAbs = E) := ⟨hZ.symm, hR.symm, hE.symm⟩
  clear hZ hR hE
  obtain ⟨W1, hW1⟩ : ∃ W1, W1 = (w.alloc (.cells #[.bool na, .slice ao al ac, .slice aO aL aC] 27)).alloc (.cells #[.bool false, .slice none 0 0] 25) := ⟨_, rfl⟩
  have qa : QCell W1 (w.heap.size) na (.slice ao al ac) (.slice aO aL aC) := by rw [hW1]; exact (qcell_step (qcell_new _ (by simp)))
  have qR : ICell W1 (w.heap.size + 1) false (.slice none 0 0) := by rw [hW1]; exact (icell_new _ (by simp))
  have hb : Below w.heap.size w W1 := by rw [hW1]; exact bstep (belowA w _) (belowA _ _)
  have hsz : w.heap.size + 1 < W1.heap.size := by rw [hW1]; simp
  replace hraw := hraw.below hb
  replace da := da.below hb
  replace ia := ia.below hb
  have HW1 : Hid (W1 = (w.alloc (.cells #[.bool na, .slice ao al ac, .slice aO aL aC] 27)).alloc (.cells #[.bool false, .slice none 0 0] 25)) := hW1
  clear hW1
  go_enter Tryd.func16, Tryd.ntmps16
  go_wp2_with fail
  rw [← HW1.out]
  clear HW1
  obtain ⟨g, hg⟩ : ∃ g, g = w.heap.size := ⟨_, rfl⟩
  rw [← hg] at qa qR hsz ⊢
  have HG : Hid (g = w.heap.size) := hg
  clear hg
  obtain ⟨cqa0, cqa1, cqa2⟩ := qa.cells
  obtain ⟨cqR0, cqR1⟩ := qR.cells
  go_wp2_with fail
  clear cqa0 cqa1 cqa2 cqR0 cqR1
  go_cut [3] (fun t wx => ∃ vx nx xo xl xc, t = .pointer (some ⟨vx, 0, none⟩) ∧ ICell wx vx nx (.slice xo xl xc) ∧ (nx = decide (Z < 0) ∧ Own W1.heap.size 68 wx (.slice xo xl xc) (lim Z.natAbs)) ∧ Below W1.heap.size W1 wx)
  case first =>
    have KEEP : ∀ u, Below W1.heap.size W1 u → AllL u [(1, fun w' => w'.cell? ⟨g, 0, none⟩ = some (.bool na) ∧ w'.cell? ⟨g, 1, none⟩ = some (.slice ao al ac)), (2, fun w' => w'.cell? ⟨g, 0, none⟩ = some (.bool na) ∧ w'.cell? ⟨g, 1, none⟩ = some (.slice ao al ac) ∧ w'.cell? ⟨g, 2, none⟩ = some (.slice aO aL aC))] := fun u B => ⟨⟨(qa.below B).cells.1, (qa.below B).cells.2.1⟩, (qa.below B).cells, trivial⟩
    refine region_late [(1, fun w' => w'.cell? ⟨g, 0, none⟩ = some (.bool na) ∧ w'.cell? ⟨g, 1, none⟩ = some (.slice ao al ac)), (2, fun w' => w'.cell? ⟨g, 0, none⟩ = some (.bool na) ∧ w'.cell? ⟨g, 1, none⟩ = some (.slice ao al ac) ∧ w'.cell? ⟨g, 2, none⟩ = some (.slice aO aL aC))] (by kernel_rfl) ?_
    have B0 : Below W1.heap.size W1 W1.drew := below_drew' _
    obtain ⟨w0, hw0⟩ : ∃ u, u = W1.drew := ⟨_, rfl⟩
    rw [← hw0] at B0 ⊢
    clear hw0
    have hHeld := KEEP _ B0
    replace ia := ia.below B0
    replace hraw := hraw.below B0
    refine late_fr 0 (v := .pointer (some ⟨g, 0, none⟩)) rfl (Or.inl ⟨by rfl, ?_⟩) hHeld ?_
    · (intro u _; go_simp)
    (try simp only [Act.put, putA, putB, putC])
    refine late_tk 1 (v := .agg #[.bool na, .slice ao al ac]) rfl (List.Mem.head _) (Or.inl ⟨by rfl, ?_⟩) hHeld ?_
    · (intro u hu; (try dsimp only at hu); go_split_ands; go_simp)
    (try simp only [Act.put, putA, putB, putC])
    refine late_tk 2 (v := .agg #[.bool na, .slice ao al ac, .slice aO aL aC]) rfl (List.Mem.tail _ (List.Mem.head _)) (Or.inl ⟨by rfl, ?_⟩) hHeld ?_
    · (intro u hu; (try dsimp only at hu); go_split_ands; go_simp)
    (try simp only [Act.put, putA, putB, putC])
    refine late_three 3 9 10 (by kernel_rfl) rfl rfl rfl (fun K hK => ?t53) (fun K hK => ?t54) (fun K hK => ?t55)
    case' t53 =>
     go_simp
     refine (c_under hraw).mono ?_
     rintro e w2 ⟨v, rfl, iu, b2⟩
     obtain ⟨un, uo, ul, uc, ux, rfl, uu, ull, uz⟩ := iu
     have iu : INum w2 (.agg #[.bool un, .slice uo ul uc]) (und q) := ⟨_, _, _, _, _, rfl, uu, ull, uz⟩
     clear uu ull uz
     clear hraw
     replace ia := ia.below b2
     have B2 : Below W1.heap.size W1 w2 := bstep B0 b2
     go_wp2_with fail
     replace hHeld := KEEP _ B2
     refine hK.out _ _ (AllL.kept hHeld) ?_
     clear hK K
     (try simp only [Act.put, putA, putB, putC])
     refine late_three 4 9 10 (by kernel_rfl) rfl rfl rfl (fun K hK => ?t24) (fun K hK => ?t25) (fun K hK => ?t26)
     case' t24 =>
      go_simp
      have hc := c_floor (ia.num (by omega)) iu
      rw [HZ.out.1, HZ.out.2.1, HZ.out.2.2] at hc
      refine hc.mono ?_
      rintro e w3 ⟨mq, mr, rfl, hq, hr, hqr, b3⟩
      obtain ⟨mo, ml, mc, rfl⟩ := hq.sl
      obtain ⟨no, nl, nc, rfl⟩ := hr.sl
      clear hc hr
      replace hq := hq.mono (B' := W1.heap.size) B2.size
      clear hqr ia iu
      have B3 : Below W1.heap.size W1 w3 := bstep B2 b3
      go_wp2_with fail
      replace hHeld := KEEP _ B3
      refine hK.out _ _ (AllL.kept hHeld) ?_
      clear hK K
      (try simp only [Act.put, putA, putB, putC])
      refine late_fr 5 (v := .tuple #[.agg #[.bool (decide (Z < 0)), .slice mo ml mc], .agg #[.bool (decide (R < 0)), .slice no nl nc], .int .i64 E]) rfl (Or.inl ⟨by rfl, ?_⟩) hHeld ?_
      · (intro u _; go_simp)
      (try simp only [Act.put, putA, putB, putC])
      refine late_fr 6 (v := .agg #[.bool (decide (Z < 0)), .slice mo ml mc]) rfl (Or.inl ⟨by rfl, ?_⟩) hHeld ?_
      · (intro u _; go_simp)
      (try simp only [Act.put, putA, putB, putC])
      refine late_fr 7 (v := .agg #[.bool (decide (R < 0)), .slice no nl nc]) rfl (Or.inl ⟨by rfl, ?_⟩) hHeld ?_
      · (intro u _; go_simp)
      (try simp only [Act.put, putA, putB, putC])
      refine late_fr 8 (v := .int .i64 E) rfl (Or.inl ⟨by rfl, ?_⟩) hHeld ?_
      · (intro u _; go_simp)
      (try simp only [Act.put, putA, putB, putC])
      refine late_two 9 10 (by kernel_rfl) rfl rfl (fun K hK => ?t8) (fun K hK => ?t9)
      case' t8 =>
       go_simp
       obtain ⟨w4, vx, hw, hv, pvx, b4, B4⟩ := new_pv B3
       rw [hw, hv]
       have hnx := own_ne_top hq
       rw [hv] at hnx
       clear hw hv
       replace hq := hq.below b4
       replace hHeld := KEEP _ B4
       refine hK.out _ _ (AllL.kept hHeld) ?_
       clear hK K
       (try simp only [Act.put, putA, putB, putC])
       refine late_st 10 rfl (fun K hK => ?_)
       go_simp
       obtain ⟨w5, vy, hw, hv, pvy, b5, B5⟩ := new_pv B4
       rw [hw, hv]
       have hny := own_ne_top hq
       rw [hv] at hny
       have hxy : vx ≠ vy := by have := pvx.lt; omega
       clear hw hv
       replace hq := hq.below b5
       replace pvx := pvx.below b5
       replace hHeld := KEEP _ B5
       refine hK.out _ _ (AllL.kept hHeld) ?_
       clear hK K
       (try simp only [Act.put, putA, putB, putC])
       have Bz := B5
      case' t9 =>
       go_simp
       obtain ⟨w6, vy, hw, hv, pvy, b6, B6⟩ := new_pv B3
       rw [hw, hv]
       have hny := own_ne_top hq
       rw [hv] at hny
       clear hw hv
       replace hq := hq.below b6
       replace hHeld := KEEP _ B6
       refine hK.out _ _ (AllL.kept hHeld) ?_
       clear hK K
       (try simp only [Act.put, putA, putB, putC])
       refine late_st 9 rfl (fun K hK => ?_)
       go_simp
       obtain ⟨w7, vx, hw, hv, pvx, b7, B7⟩ := new_pv B6
       rw [hw, hv]
       have hnx := own_ne_top hq
       rw [hv] at hnx
       have hxy : vx ≠ vy := by have := pvy.lt; omega
       clear hw hv
       replace hq := hq.below b7
       replace pvy := pvy.below b7
       replace hHeld := KEEP _ B7
       refine hK.out _ _ (AllL.kept hHeld) ?_
       clear hK K
       (try simp only [Act.put, putA, putB, putC])
       have Bz := B7
     case' t25 =>
      go_simp
      obtain ⟨w10, vx, hw, hv, pvx, b10, B10⟩ := new_pv B2
      rw [hw, hv]
      clear hw hv
      replace ia := ia.below b10
      replace iu := iu.below b10
      replace hHeld := KEEP _ B10
      refine hK.out _ _ (AllL.kept hHeld) ?_
      clear hK K
      (try simp only [Act.put, putA, putB, putC])
      refine late_two 4 10 (by kernel_rfl) rfl rfl (fun K hK => ?t15) (fun K hK => ?t16)
      case' t15 =>
       go_simp
       have hc := c_floor (ia.num (by omega)) iu
       rw [HZ.out.1, HZ.out.2.1, HZ.out.2.2] at hc
       refine hc.mono ?_
       rintro e w11 ⟨mq, mr, rfl, hq, hr, hqr, b11⟩
       obtain ⟨mo, ml, mc, rfl⟩ := hq.sl
       obtain ⟨no, nl, nc, rfl⟩ := hr.sl
       clear hc hr
       have hnx := own_ne3 hq pvx.lt
       replace hq := hq.mono (B' := W1.heap.size) B10.size
       clear hqr ia iu
       replace pvx := pvx.below b11
       have B11 : Below W1.heap.size W1 w11 := bstep B10 b11
       go_wp2_with fail
       replace hHeld := KEEP _ B11
       refine hK.out _ _ (AllL.kept hHeld) ?_
       clear hK K
       (try simp only [Act.put, putA, putB, putC])
       refine late_fr 5 (v := .tuple #[.agg #[.bool (decide (Z < 0)), .slice mo ml mc], .agg #[.bool (decide (R < 0)), .slice no nl nc], .int .i64 E]) rfl (Or.inl ⟨by rfl, ?_⟩) hHeld ?_
       · (intro u _; go_simp)
       (try simp only [Act.put, putA, putB, putC])
       refine late_fr 6 (v := .agg #[.bool (decide (Z < 0)), .slice mo ml mc]) rfl (Or.inl ⟨by rfl, ?_⟩) hHeld ?_
       · (intro u _; go_simp)
       (try simp only [Act.put, putA, putB, putC])
       refine late_fr 7 (v := .agg #[.bool (decide (R < 0)), .slice no nl nc]) rfl (Or.inl ⟨by rfl, ?_⟩) hHeld ?_
       · (intro u _; go_simp)
       (try simp only [Act.put, putA, putB, putC])
       refine late_fr 8 (v := .int .i64 E) rfl (Or.inl ⟨by rfl, ?_⟩) hHeld ?_
       · (intro u _; go_simp)
       (try simp only [Act.put, putA, putB, putC])
       refine late_st 10 rfl (fun K hK => ?_)
       go_simp
       obtain ⟨w12, vy, hw, hv, pvy, b12, B12⟩ := new_pv B11
       rw [hw, hv]
       have hny := own_ne_top hq
       rw [hv] at hny
       have hxy : vx ≠ vy := by have := pvx.lt; omega
       clear hw hv
       replace hq := hq.below b12
       replace pvx := pvx.below b12
       replace hHeld := KEEP _ B12
       refine hK.out _ _ (AllL.kept hHeld) ?_
       clear hK K
       (try simp only [Act.put, putA, putB, putC])
       have Bz := B12
      case' t16 =>
       go_simp
       obtain ⟨w13, vy, hw, hv, pvy, b13, B13⟩ := new_pv B10
       rw [hw, hv]
       have hxy : vx ≠ vy := by have := pvx.lt; omega
       clear hw hv
       replace ia := ia.below b13
       replace iu := iu.below b13
       replace pvx := pvx.below b13
       replace hHeld := KEEP _ B13
       refine hK.out _ _ (AllL.kept hHeld) ?_
       clear hK K
       (try simp only [Act.put, putA, putB, putC])
       refine late_st 4 rfl (fun K hK => ?_)
       go_simp
       have hc := c_floor (ia.num (by omega)) iu
       rw [HZ.out.1, HZ.out.2.1, HZ.out.2.2] at hc
       refine hc.mono ?_
       rintro e w14 ⟨mq, mr, rfl, hq, hr, hqr, b14⟩
       obtain ⟨mo, ml, mc, rfl⟩ := hq.sl
       obtain ⟨no, nl, nc, rfl⟩ := hr.sl
       clear hc hr
       have hnx := own_ne3 hq pvx.lt
       have hny := own_ne3 hq pvy.lt
       replace hq := hq.mono (B' := W1.heap.size) B13.size
       clear hqr ia iu
       replace pvx := pvx.below b14
       replace pvy := pvy.below b14
       have B14 : Below W1.heap.size W1 w14 := bstep B13 b14
       go_wp2_with fail
       replace hHeld := KEEP _ B14
       refine hK.out _ _ (AllL.kept hHeld) ?_
       clear hK K
       (try simp only [Act.put, putA, putB, putC])
       refine late_fr 5 (v := .tuple #[.agg #[.bool (decide (Z < 0)), .slice mo ml mc], .agg #[.bool (decide (R < 0)), .slice no nl nc], .int .i64 E]) rfl (Or.inl ⟨by rfl, ?_⟩) hHeld ?_
       · (intro u _; go_simp)
       (try simp only [Act.put, putA, putB, putC])
       refine late_fr 6 (v := .agg #[.bool (decide (Z < 0)), .slice mo ml mc]) rfl (Or.inl ⟨by rfl, ?_⟩) hHeld ?_
       · (intro u _; go_simp)
       (try simp only [Act.put, putA, putB, putC])
       refine late_fr 7 (v := .agg #[.bool (decide (R < 0)), .slice no nl nc]) rfl (Or.inl ⟨by rfl, ?_⟩) hHeld ?_
       · (intro u _; go_simp)
       (try simp only [Act.put, putA, putB, putC])
       refine late_fr 8 (v := .int .i64 E) rfl (Or.inl ⟨by rfl, ?_⟩) hHeld ?_
       · (intro u _; go_simp)
       (try simp only [Act.put, putA, putB, putC])
       have Bz := B14
     case' t26 =>
      go_simp
      obtain ⟨w17, vy, hw, hv, pvy, b17, B17⟩ := new_pv B2
      rw [hw, hv]
      clear hw hv
      replace ia := ia.below b17
      replace iu := iu.below b17
      replace hHeld := KEEP _ B17
      refine hK.out _ _ (AllL.kept hHeld) ?_
      clear hK K
      (try simp only [Act.put, putA, putB, putC])
      refine late_two 4 9 (by kernel_rfl) rfl rfl (fun K hK => ?t22) (fun K hK => ?t23)
      case' t22 =>
       go_simp
       have hc := c_floor (ia.num (by omega)) iu
       rw [HZ.out.1, HZ.out.2.1, HZ.out.2.2] at hc
       refine hc.mono ?_
       rintro e w18 ⟨mq, mr, rfl, hq, hr, hqr, b18⟩
       obtain ⟨mo, ml, mc, rfl⟩ := hq.sl
       obtain ⟨no, nl, nc, rfl⟩ := hr.sl
       clear hc hr
       have hny := own_ne3 hq pvy.lt
       replace hq := hq.mono (B' := W1.heap.size) B17.size
       clear hqr ia iu
       replace pvy := pvy.below b18
       have B18 : Below W1.heap.size W1 w18 := bstep B17 b18
       go_wp2_with fail
       replace hHeld := KEEP _ B18
       refine hK.out _ _ (AllL.kept hHeld) ?_
       clear hK K
       (try simp only [Act.put, putA, putB, putC])
       refine late_fr 5 (v := .tuple #[.agg #[.bool (decide (Z < 0)), .slice mo ml mc], .agg #[.bool (decide (R < 0)), .slice no nl nc], .int .i64 E]) rfl (Or.inl ⟨by rfl, ?_⟩) hHeld ?_
       · (intro u _; go_simp)
       (try simp only [Act.put, putA, putB, putC])
       refine late_fr 6 (v := .agg #[.bool (decide (Z < 0)), .slice mo ml mc]) rfl (Or.inl ⟨by rfl, ?_⟩) hHeld ?_
       · (intro u _; go_simp)
       (try simp only [Act.put, putA, putB, putC])
       refine late_fr 7 (v := .agg #[.bool (decide (R < 0)), .slice no nl nc]) rfl (Or.inl ⟨by rfl, ?_⟩) hHeld ?_
       · (intro u _; go_simp)
       (try simp only [Act.put, putA, putB, putC])
       refine late_fr 8 (v := .int .i64 E) rfl (Or.inl ⟨by rfl, ?_⟩) hHeld ?_
       · (intro u _; go_simp)
       (try simp only [Act.put, putA, putB, putC])
       refine late_st 9 rfl (fun K hK => ?_)
       go_simp
       obtain ⟨w19, vx, hw, hv, pvx, b19, B19⟩ := new_pv B18
       rw [hw, hv]
       have hnx := own_ne_top hq
       rw [hv] at hnx
       have hxy : vx ≠ vy := by have := pvy.lt; omega
       clear hw hv
       replace hq := hq.below b19
       replace pvy := pvy.below b19
       replace hHeld := KEEP _ B19
       refine hK.out _ _ (AllL.kept hHeld) ?_
       clear hK K
       (try simp only [Act.put, putA, putB, putC])
       have Bz := B19
      case' t23 =>
       go_simp
       obtain ⟨w20, vx, hw, hv, pvx, b20, B20⟩ := new_pv B17
       rw [hw, hv]
       have hxy : vx ≠ vy := by have := pvy.lt; omega
       clear hw hv
       replace ia := ia.below b20
       replace iu := iu.below b20
       replace pvy := pvy.below b20
       replace hHeld := KEEP _ B20
       refine hK.out _ _ (AllL.kept hHeld) ?_
       clear hK K
       (try simp only [Act.put, putA, putB, putC])
       refine late_st 4 rfl (fun K hK => ?_)
       go_simp
       have hc := c_floor (ia.num (by omega)) iu
       rw [HZ.out.1, HZ.out.2.1, HZ.out.2.2] at hc
       refine hc.mono ?_
       rintro e w21 ⟨mq, mr, rfl, hq, hr, hqr, b21⟩
       obtain ⟨mo, ml, mc, rfl⟩ := hq.sl
       obtain ⟨no, nl, nc, rfl⟩ := hr.sl
       clear hc hr
       have hny := own_ne3 hq pvy.lt
       have hnx := own_ne3 hq pvx.lt
       replace hq := hq.mono (B' := W1.heap.size) B20.size
       clear hqr ia iu
       replace pvy := pvy.below b21
       replace pvx := pvx.below b21
       have B21 : Below W1.heap.size W1 w21 := bstep B20 b21
       go_wp2_with fail
       replace hHeld := KEEP _ B21
       refine hK.out _ _ (AllL.kept hHeld) ?_
       clear hK K
       (try simp only [Act.put, putA, putB, putC])
       refine late_fr 5 (v := .tuple #[.agg #[.bool (decide (Z < 0)), .slice mo ml mc], .agg #[.bool (decide (R < 0)), .slice no nl nc], .int .i64 E]) rfl (Or.inl ⟨by rfl, ?_⟩) hHeld ?_
       · (intro u _; go_simp)
       (try simp only [Act.put, putA, putB, putC])
       refine late_fr 6 (v := .agg #[.bool (decide (Z < 0)), .slice mo ml mc]) rfl (Or.inl ⟨by rfl, ?_⟩) hHeld ?_
       · (intro u _; go_simp)
       (try simp only [Act.put, putA, putB, putC])
       refine late_fr 7 (v := .agg #[.bool (decide (R < 0)), .slice no nl nc]) rfl (Or.inl ⟨by rfl, ?_⟩) hHeld ?_
       · (intro u _; go_simp)
       (try simp only [Act.put, putA, putB, putC])
       refine late_fr 8 (v := .int .i64 E) rfl (Or.inl ⟨by rfl, ?_⟩) hHeld ?_
       · (intro u _; go_simp)
       (try simp only [Act.put, putA, putB, putC])
       have Bz := B21
    case' t54 =>
     go_simp
     obtain ⟨w27, vx, hw, hv, pvx, b27, B27⟩ := new_pv B0
     rw [hw, hv]
     clear hw hv
     replace ia := ia.below b27
     replace hraw := hraw.below b27
     replace hHeld := KEEP _ B27
     refine hK.out _ _ (AllL.kept hHeld) ?_
     clear hK K
     (try simp only [Act.put, putA, putB, putC])
     refine late_two 3 10 (by kernel_rfl) rfl rfl (fun K hK => ?t38) (fun K hK => ?t39)
     case' t38 =>
      go_simp
      refine (c_under hraw).mono ?_
      rintro e w28 ⟨v, rfl, iu, b28⟩
      obtain ⟨un, uo, ul, uc, ux, rfl, uu, ull, uz⟩ := iu
      have iu : INum w28 (.agg #[.bool un, .slice uo ul uc]) (und q) := ⟨_, _, _, _, _, rfl, uu, ull, uz⟩
      clear uu ull uz
      clear hraw
      replace ia := ia.below b28
      replace pvx := pvx.below b28
      have B28 : Below W1.heap.size W1 w28 := bstep B27 b28
      go_wp2_with fail
      replace hHeld := KEEP _ B28
      refine hK.out _ _ (AllL.kept hHeld) ?_
      clear hK K
      (try simp only [Act.put, putA, putB, putC])
      refine late_two 4 10 (by kernel_rfl) rfl rfl (fun K hK => ?t33) (fun K hK => ?t34)
      case' t33 =>
       go_simp
       have hc := c_floor (ia.num (by omega)) iu
       rw [HZ.out.1, HZ.out.2.1, HZ.out.2.2] at hc
       refine hc.mono ?_
       rintro e w29 ⟨mq, mr, rfl, hq, hr, hqr, b29⟩
       obtain ⟨mo, ml, mc, rfl⟩ := hq.sl
       obtain ⟨no, nl, nc, rfl⟩ := hr.sl
       clear hc hr
       have hnx := own_ne3 hq pvx.lt
       replace hq := hq.mono (B' := W1.heap.size) B28.size
       clear hqr ia iu
       replace pvx := pvx.below b29
       have B29 : Below W1.heap.size W1 w29 := bstep B28 b29
       go_wp2_with fail
       replace hHeld := KEEP _ B29
       refine hK.out _ _ (AllL.kept hHeld) ?_
       clear hK K
       (try simp only [Act.put, putA, putB, putC])
       refine late_fr 5 (v := .tuple #[.agg #[.bool (decide (Z < 0)), .slice mo ml mc], .agg #[.bool (decide (R < 0)), .slice no nl nc], .int .i64 E]) rfl (Or.inl ⟨by rfl, ?_⟩) hHeld ?_
       · (intro u _; go_simp)
       (try simp only [Act.put, putA, putB, putC])
       refine late_fr 6 (v := .agg #[.bool (decide (Z < 0)), .slice mo ml mc]) rfl (Or.inl ⟨by rfl, ?_⟩) hHeld ?_
       · (intro u _; go_simp)
       (try simp only [Act.put, putA, putB, putC])
       refine late_fr 7 (v := .agg #[.bool (decide (R < 0)), .slice no nl nc]) rfl (Or.inl ⟨by rfl, ?_⟩) hHeld ?_
       · (intro u _; go_simp)
       (try simp only [Act.put, putA, putB, putC])
       refine late_fr 8 (v := .int .i64 E) rfl (Or.inl ⟨by rfl, ?_⟩) hHeld ?_
       · (intro u _; go_simp)
       (try simp only [Act.put, putA, putB, putC])
       refine late_st 10 rfl (fun K hK => ?_)
       go_simp
       obtain ⟨w30, vy, hw, hv, pvy, b30, B30⟩ := new_pv B29
       rw [hw, hv]
       have hny := own_ne_top hq
       rw [hv] at hny
       have hxy : vx ≠ vy := by have := pvx.lt; omega
       clear hw hv
       replace hq := hq.below b30
       replace pvx := pvx.below b30
       replace hHeld := KEEP _ B30
       refine hK.out _ _ (AllL.kept hHeld) ?_
       clear hK K
       (try simp only [Act.put, putA, putB, putC])
       have Bz := B30
      case' t34 =>
       go_simp
       obtain ⟨w31, vy, hw, hv, pvy, b31, B31⟩ := new_pv B28
       rw [hw, hv]
       have hxy : vx ≠ vy := by have := pvx.lt; omega
       clear hw hv
       replace ia := ia.below b31
       replace iu := iu.below b31
       replace pvx := pvx.below b31
       replace hHeld := KEEP _ B31
       refine hK.out _ _ (AllL.kept hHeld) ?_
       clear hK K
       (try simp only [Act.put, putA, putB, putC])
       refine late_st 4 rfl (fun K hK => ?_)
       go_simp
       have hc := c_floor (ia.num (by omega)) iu
       rw [HZ.out.1, HZ.out.2.1, HZ.out.2.2] at hc
       refine hc.mono ?_
       rintro e w32 ⟨mq, mr, rfl, hq, hr, hqr, b32⟩
       obtain ⟨mo, ml, mc, rfl⟩ := hq.sl
       obtain ⟨no, nl, nc, rfl⟩ := hr.sl
       clear hc hr
       have hnx := own_ne3 hq pvx.lt
       have hny := own_ne3 hq pvy.lt
       replace hq := hq.mono (B' := W1.heap.size) B31.size
       clear hqr ia iu
       replace pvx := pvx.below b32
       replace pvy := pvy.below b32
       have B32 : Below W1.heap.size W1 w32 := bstep B31 b32
       go_wp2_with fail
       replace hHeld := KEEP _ B32
       refine hK.out _ _ (AllL.kept hHeld) ?_
       clear hK K
       (try simp only [Act.put, putA, putB, putC])
       refine late_fr 5 (v := .tuple #[.agg #[.bool (decide (Z < 0)), .slice mo ml mc], .agg #[.bool (decide (R < 0)), .slice no nl nc], .int .i64 E]) rfl (Or.inl ⟨by rfl, ?_⟩) hHeld ?_
       · (intro u _; go_simp)
       (try simp only [Act.put, putA, putB, putC])
       refine late_fr 6 (v := .agg #[.bool (decide (Z < 0)), .slice mo ml mc]) rfl (Or.inl ⟨by rfl, ?_⟩) hHeld ?_
       · (intro u _; go_simp)
       (try simp only [Act.put, putA, putB, putC])
       refine late_fr 7 (v := .agg #[.bool (decide (R < 0)), .slice no nl nc]) rfl (Or.inl ⟨by rfl, ?_⟩) hHeld ?_
       · (intro u _; go_simp)
       (try simp only [Act.put, putA, putB, putC])
       refine late_fr 8 (v := .int .i64 E) rfl (Or.inl ⟨by rfl, ?_⟩) hHeld ?_
       · (intro u _; go_simp)
       (try simp only [Act.put, putA, putB, putC])
       have Bz := B32
     case' t39 =>
      go_simp
      obtain ⟨w35, vy, hw, hv, pvy, b35, B35⟩ := new_pv B27
      rw [hw, hv]
      have hxy : vx ≠ vy := by have := pvx.lt; omega
      clear hw hv
      replace ia := ia.below b35
      replace hraw := hraw.below b35
      replace pvx := pvx.below b35
      replace hHeld := KEEP _ B35
      refine hK.out _ _ (AllL.kept hHeld) ?_
      clear hK K
      (try simp only [Act.put, putA, putB, putC])
      refine late_st 3 rfl (fun K hK => ?_)
      go_simp
      refine (c_under hraw).mono ?_
      rintro e w36 ⟨v, rfl, iu, b36⟩
      obtain ⟨un, uo, ul, uc, ux, rfl, uu, ull, uz⟩ := iu
      have iu : INum w36 (.agg #[.bool un, .slice uo ul uc]) (und q) := ⟨_, _, _, _, _, rfl, uu, ull, uz⟩
      clear uu ull uz
      clear hraw
      replace ia := ia.below b36
      replace pvx := pvx.below b36
      replace pvy := pvy.below b36
      have B36 : Below W1.heap.size W1 w36 := bstep B35 b36
      go_wp2_with fail
      replace hHeld := KEEP _ B36
      refine hK.out _ _ (AllL.kept hHeld) ?_
      clear hK K
      (try simp only [Act.put, putA, putB, putC])
      refine late_st 4 rfl (fun K hK => ?_)
      go_simp
      have hc := c_floor (ia.num (by omega)) iu
      rw [HZ.out.1, HZ.out.2.1, HZ.out.2.2] at hc
      refine hc.mono ?_
      rintro e w37 ⟨mq, mr, rfl, hq, hr, hqr, b37⟩
      obtain ⟨mo, ml, mc, rfl⟩ := hq.sl
      obtain ⟨no, nl, nc, rfl⟩ := hr.sl
      clear hc hr
      have hnx := own_ne3 hq pvx.lt
      have hny := own_ne3 hq pvy.lt
      replace hq := hq.mono (B' := W1.heap.size) B36.size
      clear hqr ia iu
      replace pvx := pvx.below b37
      replace pvy := pvy.below b37
      have B37 : Below W1.heap.size W1 w37 := bstep B36 b37
      go_wp2_with fail
      replace hHeld := KEEP _ B37
      refine hK.out _ _ (AllL.kept hHeld) ?_
      clear hK K
      (try simp only [Act.put, putA, putB, putC])
      refine late_fr 5 (v := .tuple #[.agg #[.bool (decide (Z < 0)), .slice mo ml mc], .agg #[.bool (decide (R < 0)), .slice no nl nc], .int .i64 E]) rfl (Or.inl ⟨by rfl, ?_⟩) hHeld ?_
      · (intro u _; go_simp)
      (try simp only [Act.put, putA, putB, putC])
      refine late_fr 6 (v := .agg #[.bool (decide (Z < 0)), .slice mo ml mc]) rfl (Or.inl ⟨by rfl, ?_⟩) hHeld ?_
      · (intro u _; go_simp)
      (try simp only [Act.put, putA, putB, putC])
      refine late_fr 7 (v := .agg #[.bool (decide (R < 0)), .slice no nl nc]) rfl (Or.inl ⟨by rfl, ?_⟩) hHeld ?_
      · (intro u _; go_simp)
      (try simp only [Act.put, putA, putB, putC])
      refine late_fr 8 (v := .int .i64 E) rfl (Or.inl ⟨by rfl, ?_⟩) hHeld ?_
      · (intro u _; go_simp)
      (try simp only [Act.put, putA, putB, putC])
      have Bz := B37
    case' t55 =>
     go_simp
     obtain ⟨w40, vy, hw, hv, pvy, b40, B40⟩ := new_pv B0
     rw [hw, hv]
     clear hw hv
     replace ia := ia.below b40
     replace hraw := hraw.below b40
     replace hHeld := KEEP _ B40
     refine hK.out _ _ (AllL.kept hHeld) ?_
     clear hK K
     (try simp only [Act.put, putA, putB, putC])
     refine late_two 3 9 (by kernel_rfl) rfl rfl (fun K hK => ?t51) (fun K hK => ?t52)
     case' t51 =>
      go_simp
      refine (c_under hraw).mono ?_
      rintro e w41 ⟨v, rfl, iu, b41⟩
      obtain ⟨un, uo, ul, uc, ux, rfl, uu, ull, uz⟩ := iu
      have iu : INum w41 (.agg #[.bool un, .slice uo ul uc]) (und q) := ⟨_, _, _, _, _, rfl, uu, ull, uz⟩
      clear uu ull uz
      clear hraw
      replace ia := ia.below b41
      replace pvy := pvy.below b41
      have B41 : Below W1.heap.size W1 w41 := bstep B40 b41
      go_wp2_with fail
      replace hHeld := KEEP _ B41
      refine hK.out _ _ (AllL.kept hHeld) ?_
      clear hK K
      (try simp only [Act.put, putA, putB, putC])
      refine late_two 4 9 (by kernel_rfl) rfl rfl (fun K hK => ?t46) (fun K hK => ?t47)
      case' t46 =>
       go_simp
       have hc := c_floor (ia.num (by omega)) iu
       rw [HZ.out.1, HZ.out.2.1, HZ.out.2.2] at hc
       refine hc.mono ?_
       rintro e w42 ⟨mq, mr, rfl, hq, hr, hqr, b42⟩
       obtain ⟨mo, ml, mc, rfl⟩ := hq.sl
       obtain ⟨no, nl, nc, rfl⟩ := hr.sl
       clear hc hr
       have hny := own_ne3 hq pvy.lt
       replace hq := hq.mono (B' := W1.heap.size) B41.size
       clear hqr ia iu
       replace pvy := pvy.below b42
       have B42 : Below W1.heap.size W1 w42 := bstep B41 b42
       go_wp2_with fail
       replace hHeld := KEEP _ B42
       refine hK.out _ _ (AllL.kept hHeld) ?_
       clear hK K
       (try simp only [Act.put, putA, putB, putC])
       refine late_fr 5 (v := .tuple #[.agg #[.bool (decide (Z < 0)), .slice mo ml mc], .agg #[.bool (decide (R < 0)), .slice no nl nc], .int .i64 E]) rfl (Or.inl ⟨by rfl, ?_⟩) hHeld ?_
       · (intro u _; go_simp)
       (try simp only [Act.put, putA, putB, putC])
       refine late_fr 6 (v := .agg #[.bool (decide (Z < 0)), .slice mo ml mc]) rfl (Or.inl ⟨by rfl, ?_⟩) hHeld ?_
       · (intro u _; go_simp)
       (try simp only [Act.put, putA, putB, putC])
       refine late_fr 7 (v := .agg #[.bool (decide (R < 0)), .slice no nl nc]) rfl (Or.inl ⟨by rfl, ?_⟩) hHeld ?_
       · (intro u _; go_simp)
       (try simp only [Act.put, putA, putB, putC])
       refine late_fr 8 (v := .int .i64 E) rfl (Or.inl ⟨by rfl, ?_⟩) hHeld ?_
       · (intro u _; go_simp)
       (try simp only [Act.put, putA, putB, putC])
       refine late_st 9 rfl (fun K hK => ?_)
       go_simp
       obtain ⟨w43, vx, hw, hv, pvx, b43, B43⟩ := new_pv B42
       rw [hw, hv]
       have hnx := own_ne_top hq
       rw [hv] at hnx
       have hxy : vx ≠ vy := by have := pvy.lt; omega
       clear hw hv
       replace hq := hq.below b43
       replace pvy := pvy.below b43
       replace hHeld := KEEP _ B43
       refine hK.out _ _ (AllL.kept hHeld) ?_
       clear hK K
       (try simp only [Act.put, putA, putB, putC])
       have Bz := B43
      case' t47 =>
       go_simp
       obtain ⟨w44, vx, hw, hv, pvx, b44, B44⟩ := new_pv B41
       rw [hw, hv]
       have hxy : vx ≠ vy := by have := pvy.lt; omega
       clear hw hv
       replace ia := ia.below b44
       replace iu := iu.below b44
       replace pvy := pvy.below b44
       replace hHeld := KEEP _ B44
       refine hK.out _ _ (AllL.kept hHeld) ?_
       clear hK K
       (try simp only [Act.put, putA, putB, putC])
       refine late_st 4 rfl (fun K hK => ?_)
       go_simp
       have hc := c_floor (ia.num (by omega)) iu
       rw [HZ.out.1, HZ.out.2.1, HZ.out.2.2] at hc
       refine hc.mono ?_
       rintro e w45 ⟨mq, mr, rfl, hq, hr, hqr, b45⟩
       obtain ⟨mo, ml, mc, rfl⟩ := hq.sl
       obtain ⟨no, nl, nc, rfl⟩ := hr.sl
       clear hc hr
       have hny := own_ne3 hq pvy.lt
       have hnx := own_ne3 hq pvx.lt
       replace hq := hq.mono (B' := W1.heap.size) B44.size
       clear hqr ia iu
       replace pvy := pvy.below b45
       replace pvx := pvx.below b45
       have B45 : Below W1.heap.size W1 w45 := bstep B44 b45
       go_wp2_with fail
       replace hHeld := KEEP _ B45
       refine hK.out _ _ (AllL.kept hHeld) ?_
       clear hK K
       (try simp only [Act.put, putA, putB, putC])
       refine late_fr 5 (v := .tuple #[.agg #[.bool (decide (Z < 0)), .slice mo ml mc], .agg #[.bool (decide (R < 0)), .slice no nl nc], .int .i64 E]) rfl (Or.inl ⟨by rfl, ?_⟩) hHeld ?_
       · (intro u _; go_simp)
       (try simp only [Act.put, putA, putB, putC])
       refine late_fr 6 (v := .agg #[.bool (decide (Z < 0)), .slice mo ml mc]) rfl (Or.inl ⟨by rfl, ?_⟩) hHeld ?_
       · (intro u _; go_simp)
       (try simp only [Act.put, putA, putB, putC])
       refine late_fr 7 (v := .agg #[.bool (decide (R < 0)), .slice no nl nc]) rfl (Or.inl ⟨by rfl, ?_⟩) hHeld ?_
       · (intro u _; go_simp)
       (try simp only [Act.put, putA, putB, putC])
       refine late_fr 8 (v := .int .i64 E) rfl (Or.inl ⟨by rfl, ?_⟩) hHeld ?_
       · (intro u _; go_simp)
       (try simp only [Act.put, putA, putB, putC])
       have Bz := B45
     case' t52 =>
      go_simp
      obtain ⟨w48, vx, hw, hv, pvx, b48, B48⟩ := new_pv B40
      rw [hw, hv]
      have hxy : vx ≠ vy := by have := pvy.lt; omega
      clear hw hv
      replace ia := ia.below b48
      replace hraw := hraw.below b48
      replace pvy := pvy.below b48
      replace hHeld := KEEP _ B48
      refine hK.out _ _ (AllL.kept hHeld) ?_
      clear hK K
      (try simp only [Act.put, putA, putB, putC])
      refine late_st 3 rfl (fun K hK => ?_)
      go_simp
      refine (c_under hraw).mono ?_
      rintro e w49 ⟨v, rfl, iu, b49⟩
      obtain ⟨un, uo, ul, uc, ux, rfl, uu, ull, uz⟩ := iu
      have iu : INum w49 (.agg #[.bool un, .slice uo ul uc]) (und q) := ⟨_, _, _, _, _, rfl, uu, ull, uz⟩
      clear uu ull uz
      clear hraw
      replace ia := ia.below b49
      replace pvy := pvy.below b49
      replace pvx := pvx.below b49
      have B49 : Below W1.heap.size W1 w49 := bstep B48 b49
      go_wp2_with fail
      replace hHeld := KEEP _ B49
      refine hK.out _ _ (AllL.kept hHeld) ?_
      clear hK K
      (try simp only [Act.put, putA, putB, putC])
      refine late_st 4 rfl (fun K hK => ?_)
      go_simp
      have hc := c_floor (ia.num (by omega)) iu
      rw [HZ.out.1, HZ.out.2.1, HZ.out.2.2] at hc
      refine hc.mono ?_
      rintro e w50 ⟨mq, mr, rfl, hq, hr, hqr, b50⟩
      obtain ⟨mo, ml, mc, rfl⟩ := hq.sl
      obtain ⟨no, nl, nc, rfl⟩ := hr.sl
      clear hc hr
      have hny := own_ne3 hq pvy.lt
      have hnx := own_ne3 hq pvx.lt
      replace hq := hq.mono (B' := W1.heap.size) B49.size
      clear hqr ia iu
      replace pvy := pvy.below b50
      replace pvx := pvx.below b50
      have B50 : Below W1.heap.size W1 w50 := bstep B49 b50
      go_wp2_with fail
      replace hHeld := KEEP _ B50
      refine hK.out _ _ (AllL.kept hHeld) ?_
      clear hK K
      (try simp only [Act.put, putA, putB, putC])
      refine late_fr 5 (v := .tuple #[.agg #[.bool (decide (Z < 0)), .slice mo ml mc], .agg #[.bool (decide (R < 0)), .slice no nl nc], .int .i64 E]) rfl (Or.inl ⟨by rfl, ?_⟩) hHeld ?_
      · (intro u _; go_simp)
      (try simp only [Act.put, putA, putB, putC])
      refine late_fr 6 (v := .agg #[.bool (decide (Z < 0)), .slice mo ml mc]) rfl (Or.inl ⟨by rfl, ?_⟩) hHeld ?_
      · (intro u _; go_simp)
      (try simp only [Act.put, putA, putB, putC])
      refine late_fr 7 (v := .agg #[.bool (decide (R < 0)), .slice no nl nc]) rfl (Or.inl ⟨by rfl, ?_⟩) hHeld ?_
      · (intro u _; go_simp)
      (try simp only [Act.put, putA, putB, putC])
      refine late_fr 8 (v := .int .i64 E) rfl (Or.inl ⟨by rfl, ?_⟩) hHeld ?_
      · (intro u _; go_simp)
      (try simp only [Act.put, putA, putB, putC])
      have Bz := B50
    all_goals
      have hyx : ¬ vy = vx := fun e => hxy e.symm
      have HIB : Hid (FlE W1 _ vx (decide (Z < 0)) (.slice mo ml mc) (lim Z.natAbs)) := fl_end (b2 := decide (R < 0)) (m2 := .slice no nl nc) pvx pvy hxy hq hnx hny Bz
      obtain ⟨y0, y1⟩ := pvx.c.cells
      have f0 := pvx.c.thaw 0
      have f1 := pvx.c.thaw 1
      obtain ⟨y2, y3⟩ := pvy.c.cells
      have f2 := pvy.c.thaw 0
      have f3 := pvy.c.thaw 1
      clear hq hnx hny pvx pvy
      generalize decide (Z < 0) = bZ at *
      generalize decide (R < 0) = bR at *
      refine late_st 11 rfl (fun K hK => ?_)
      go_simp
      refine hK.out _ _ ⟨kpt 4, kpt 3, trivial⟩ ?_
      clear hK K
      (try simp only [Act.put, putA, putB, putC])
      refine late_st 12 rfl (fun K hK => ?_)
      go_simp
      refine hK.out _ _ ⟨kpt 4, kpt 3, trivial⟩ ?_
      clear hK K
      (try simp only [Act.put, putA, putB, putC])
      refine late_st 13 rfl (fun K hK => ?_)
      go_simp
      refine hK.out _ _ ⟨kpt 4, kpt 3, trivial⟩ ?_
      clear hK K
      (try simp only [Act.put, putA, putB, putC])
      refine late_done (by kernel_rfl) ?_ _
      clear hHeld y0 y1 y2 y3 f0 f1 f2 f3 hxy hyx
      go_wp2_with fail
      go_meet
      exact ⟨_, _, _, _, _, rfl, HIB.out.1, ⟨rfl, HIB.out.2.1⟩, HIB.out.2.2⟩
  case rest =>
    obtain ⟨vx, nx, xo, xl, xc, rfl, px, ⟨rfl, hx⟩, b⟩ := hcut
    have qr := qR.below b
    obtain ⟨c0, c1⟩ := px.cells
    obtain ⟨y0, y1⟩ := qr.cells
    have f0 := qr.thaw 0
    have f1 := qr.thaw 1
    have HE : Hid (IEnd w Z (.returned (.agg #[.bool (decide (Z < 0)), .slice xo xl xc])) ((wc.setCell ⟨g + 1, 0, none⟩ (.bool (decide (Z < 0)))).setCell ⟨g + 1, 1, none⟩ (.slice xo xl xc))) := (int_done rfl (by rw [HG.out]; omega) hx hsz (bstep hb b)).i
    have HW : Hid (ICell ((wc.setCell ⟨g + 1, 0, none⟩ (.bool (decide (Z < 0)))).setCell ⟨g + 1, 1, none⟩ (.slice xo xl xc)) (g + 1) (decide (Z < 0)) (.slice xo xl xc)) := qr.write _ _
    generalize decide (Z < 0) = bb at *
    clear hx px qr qR qa ia da hraw hb hsz b
    go_wp2_with fail
    (try simp only [Exit.inBlock, Exit.then])
    exact bodyPost_ret (results_cell_row rfl _ _ (g + 1) 25 _ (0, 0) _ rfl HW.out Tryd.underlying25 rfl (by kernel_rfl)) rfl HE.out
end Go.Proofs.YtdfmmaehmngkhaaDoor
