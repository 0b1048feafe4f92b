/-
  Proved here: what Floor of package frac and of the document's layer 3 answer.
  Proved here: credenceref03's SameList of two rows of fractions that stand alike: it answers true.
  Proved here: the answers of Div and of the others, error or not, in one shape for package frac and for the document's layer 3.
  Proved here: the answers of package frac and of the document's layer 3 over fractions of at most 40 limbs, in one shape.
  Proved here: what between of package frac answers of two fractions above 0: the simplest one from the first to the second.
  Proved here: what Simplest of package frac answers.
  Proved here: what cutAll of a list of fractions answers: new memory, in it the first thirty, each of at most forty limbs.
  Proved here: what Sum of the document's layer 3 answers.
  Proved here: the document's answers of layer 3 over fractions of at most 40 limbs, by their values alone.
  Proved here: plain facts on the document's way to the simplest fraction: what its comparisons say.
-/
import Derived.Test.YtfnafgjnimfmjaaGreatDoorRFloorAll
import Derived.Test.YtfnafgjnimfmjaaGreatDoorR3All
import Derived.Test.YtfnafgjnimfmjaaGreatDoorSimpQAll
import Derived.Test.YtfnafgjnimfmjaaGreatDoorLate
import Derived.Test.YtfnafgjnimfmjaaGreatDoorPowMathAll
import Derived.Test.YtfnafgjnimfmjaaGreatDoorSimp2
namespace Go.Proofs.YtfnafgjnimfmjaaGreatDoor
set_option maxRecDepth 100000
set_option maxHeartbeats 12800000
open Go.RowKit
attribute [local go_sem ↓] Go.wp_at_zero Go.wp_at_succ

section
variable {P : Program} {l : List Oper} {Q : Exit → Act → World → Prop} {md : Region.Mode} {L : List (Nat × (World → Prop))}
theorem late_three (i j k : Nat) {o o2 o3 : Oper} {n : Nat} {done : Array Bool} {a : Act} {w : World} (hr : Region.ready md l.toArray done = [i, j, k]) (ho : l[i]? = some o) (ho2 : l[j]? = some o2) (ho3 : l[k]? = some o3)
  (h : ∀ K' : Act → World → Prop, Shut (∀ b u, Kept md l.toArray (done.setIfInBounds i true) u L → wpLate P md l.toArray Q L n (done.setIfInBounds i true) b u → K' b u) → if Region.wanted o (yielded l.toArray a.tmps) = true then Oper.wp P o a w K' Q else K' (a.put o.dst undef) w)
  (h2 : ∀ K' : Act → World → Prop, Shut (∀ b u, Kept md l.toArray (done.setIfInBounds j true) u L → wpLate P md l.toArray Q L n (done.setIfInBounds j true) b u → K' b u) → if Region.wanted o2 (yielded l.toArray a.tmps) = true then Oper.wp P o2 a w K' Q else K' (a.put o2.dst undef) w)
  (h3 : ∀ K' : Act → World → Prop, Shut (∀ b u, Kept md l.toArray (done.setIfInBounds k true) u L → wpLate P md l.toArray Q L n (done.setIfInBounds k true) b u → K' b u) → if Region.wanted o3 (yielded l.toArray a.tmps) = true then Oper.wp P o3 a w K' Q else K' (a.put o3.dst undef) w) :
  wpLate P md l.toArray Q L (n + 1) done a w := by
 constructor
 · intro h0; rw [h0] at hr; cases hr
 ·
  intro m hm
  rw [hr] at hm
  rcases List.mem_cons.1 hm with e | hm
  ·
   subst e
   exact wpOp_step (by rw [List.getElem?_toArray]; exact ho) (fun K' hK => h K' (fun b u h1 h2 => hK b u ⟨h1, h2⟩))
  ·
   rcases List.mem_cons.1 hm with e | hm
   ·
    subst e
    exact wpOp_step (by rw [List.getElem?_toArray]; exact ho2) (fun K' hK => h2 K' (fun b u h1 h2 => hK b u ⟨h1, h2⟩))
   ·
    rw [List.mem_singleton] at hm
    subst hm
    exact wpOp_step (by rw [List.getElem?_toArray]; exact ho3) (fun K' hK => h3 K' (fun b u h1 h2 => hK b u ⟨h1, h2⟩))
end
structure PV (W1 w : World) (v : Nat) : Prop where
 c : ICell w v false (.slice none 0 0)
 lt : v < w.heap.size
 ge : W1.heap.size ≤ v
theorem PV.below {W1 w w' : World} {v : Nat} (h : PV W1 w v) (hb : Below w.heap.size w w') : PV W1 w' v := ⟨h.c.below hb, Nat.lt_of_lt_of_le h.lt hb.size, h.ge⟩
theorem new_pv {W1 c : World} (B : Below W1.heap.size W1 c) : ∃ wn v, c.alloc (.cells #[.bool false, .slice none 0 0] 25) = wn ∧ c.heap.size = v ∧ PV W1 wn v ∧ Below c.heap.size c wn ∧ Below W1.heap.size W1 wn :=
 ⟨_, _, rfl, rfl, ⟨icell_new _ rfl, by simp, B.size⟩, belowA _ _, bstep B (belowA _ _)⟩
def FlE (W1 w : World) (v : Nat) (b : Bool) (m : Value) (xs : List Nat) : Prop := ICell w v b m ∧ Own W1.heap.size 37 w m xs ∧ Below W1.heap.size W1 w
theorem fl_end {W1 c : World} {vx vy : Nat} {m m2 : Value} {b b2 : Bool} {xs : List Nat} (hx : PV W1 c vx) (hy : PV W1 c vy) (hxy : vx ≠ vy) (hq : Own W1.heap.size 37 c m xs) (hnx : m.ownBlock = none ∨ m.ownBlock ≠ some vx) (hny : m.ownBlock = none ∨ m.ownBlock ≠ some vy) (B : Below W1.heap.size W1 c) :
  FlE W1 ((((c.setCell ⟨vx, 0, none⟩ (.bool b)).setCell ⟨vx, 1, none⟩ m).setCell ⟨vy, 0, none⟩ (.bool b2)).setCell ⟨vy, 1, none⟩ m2) vx b m xs :=
 ⟨(icell_two hx.c hy.c hxy).1, own_put (own_put hq hnx) hny, (((B.setCell (p := ⟨vx, 0, none⟩) hx.ge _).setCell (p := ⟨vx, 1, none⟩) hx.ge _).setCell (p := ⟨vy, 0, none⟩) hy.ge _).setCell (p := ⟨vy, 1, none⟩) hy.ge _⟩
theorem NB.raw {w : World} {n : Bool} {ao bo : Option Addr} {al ac bl bc : Nat} {p : Int} {q L : Nat} (h : IB w (.agg #[.bool n, .slice ao al ac]) p L) (hd : NB w (.slice bo bl bc) (q : Int) L) (hL : L ≤ 1000000) : RRaw w (.agg #[.bool n, .slice ao al ac, .slice bo bl bc]) p q := by
 obtain ⟨o, l, c, xs, e, h1, h2, h3⟩ := hd
 cases e
 exact ⟨_, _, _, _, _, _, _, _, rfl, h.num hL, h1, Nat.le_trans h2 hL, by omega⟩
theorem floor3 {p : Int} {q L : Nat} (na : Bool) (ao aO : Option Addr) (al ac aL aC : Nat) {w : World} (ia : IB w (.agg #[.bool na, .slice ao al ac]) p L) (da : NB w (.slice aO aL aC) (q : Int) L) (h1L : 1 ≤ L) (hL : L ≤ 140) : Calls Tryz.prog 24 #[.agg #[.bool na, .slice ao al ac, .slice aO aL aC]] w fun e w' => IEnd w (fq p (und q)) e w' := by
 have hraw := NB.raw ia da (by omega)
 obtain ⟨Z, hZ⟩ : ∃ Z, Z = fq p (und q) := ⟨_, rfl⟩
 obtain ⟨R, hR⟩ : ∃ R, R = fr p (und q) := ⟨_, rfl⟩
 obtain ⟨E, hE⟩ : ∃ E, E = errZ (und q).natAbs := ⟨_, rfl⟩
 rw [← hZ]
 have HZ : Hid (fq p (und q) = Z ∧ fr p (und q) = R ∧ errZ (und q).natAbs = E) := ⟨hZ.symm, hR.symm, hE.symm⟩
 clear hZ hR hE
 obtain ⟨W1, hW1⟩ : ∃ W1, W1 = (w.alloc (.cells #[.bool na, .slice ao al ac, .slice aO aL aC] 27)).alloc (.cells #[.bool false, .slice none 0 0] 25) := ⟨_, rfl⟩
 have qa : QCell W1 (w.heap.size) na (.slice ao al ac) (.slice aO aL aC) := by rw [hW1]; exact (qcell_step (qcell_new _ (by simp)))
 have qR : ICell W1 (w.heap.size + 1) false (.slice none 0 0) := by rw [hW1]; exact (icell_new _ (by simp))
 have hb : Below w.heap.size w W1 := by rw [hW1]; exact bstep (belowA w _) (belowA _ _)
 have hsz : w.heap.size + 1 < W1.heap.size := by rw [hW1]; simp
 replace hraw := hraw.below hb
 replace da := da.below hb
 replace ia := ia.below hb
 have HW1 : Hid (W1 = (w.alloc (.cells #[.bool na, .slice ao al ac, .slice aO aL aC] 27)).alloc (.cells #[.bool false, .slice none 0 0] 25)) := hW1
 clear hW1
 go_enter Tryz.func24, Tryz.ntmps24
 go_wp2_with fail
 rw [← HW1.out]
 clear HW1
 obtain ⟨g, hg⟩ : ∃ g, g = w.heap.size := ⟨_, rfl⟩
 rw [← hg] at qa qR hsz ⊢
 have HG : Hid (g = w.heap.size) := hg
 clear hg
 obtain ⟨cqa0, cqa1, cqa2⟩ := qa.cells
 obtain ⟨cqR0, cqR1⟩ := qR.cells
 go_wp2_with fail
 clear cqa0 cqa1 cqa2 cqR0 cqR1
 go_cut [3] (fun t wx => ∃ vx nx xo xl xc, t = .pointer (some ⟨vx, 0, none⟩) ∧ ICell wx vx nx (.slice xo xl xc) ∧ (nx = decide (Z < 0) ∧ Own W1.heap.size 37 wx (.slice xo xl xc) (lim Z.natAbs)) ∧ Below W1.heap.size W1 wx)
 case first =>
  have KEEP : ∀ u, Below W1.heap.size W1 u → AllL u [(1, fun w' => w'.cell? ⟨g, 0, none⟩ = some (.bool na) ∧ w'.cell? ⟨g, 1, none⟩ = some (.slice ao al ac)), (2, fun w' => w'.cell? ⟨g, 0, none⟩ = some (.bool na) ∧ w'.cell? ⟨g, 1, none⟩ = some (.slice ao al ac) ∧ w'.cell? ⟨g, 2, none⟩ = some (.slice aO aL aC))] := fun u B => ⟨⟨(qa.below B).cells.1, (qa.below B).cells.2.1⟩, (qa.below B).cells, trivial⟩
  refine region_late [(1, fun w' => w'.cell? ⟨g, 0, none⟩ = some (.bool na) ∧ w'.cell? ⟨g, 1, none⟩ = some (.slice ao al ac)), (2, fun w' => w'.cell? ⟨g, 0, none⟩ = some (.bool na) ∧ w'.cell? ⟨g, 1, none⟩ = some (.slice ao al ac) ∧ w'.cell? ⟨g, 2, none⟩ = some (.slice aO aL aC))] (by kernel_rfl) ?_
  have B0 : Below W1.heap.size W1 W1.drew := below_drew' _
  obtain ⟨w0, hw0⟩ : ∃ u, u = W1.drew := ⟨_, rfl⟩
  rw [← hw0] at B0 ⊢
  clear hw0
  have hHeld := KEEP _ B0
  replace ia := ia.below B0
  replace da := da.below B0
  refine late_fr 0 (v := .pointer (some ⟨g, 0, none⟩)) rfl (Or.inl ⟨by rfl, ?_⟩) hHeld ?_
  · (intro u _; go_simp)
  try simp only [pu1, pu2, pu3, pu4]
  refine late_tk 1 (v := .agg #[.bool na, .slice ao al ac]) rfl (List.Mem.head _) (Or.inl ⟨by rfl, ?_⟩) hHeld ?_
  · (intro u hu; (try dsimp only at hu); go_split_ands; go_simp)
  try simp only [pu1, pu2, pu3, pu4]
  refine late_tk 2 (v := .agg #[.bool na, .slice ao al ac, .slice aO aL aC]) rfl (List.Mem.tail _ (List.Mem.head _)) (Or.inl ⟨by rfl, ?_⟩) hHeld ?_
  · (intro u hu; (try dsimp only at hu); go_split_ands; go_simp)
  try simp only [pu1, pu2, pu3, pu4]
  refine late_three 3 10 11 (by kernel_rfl) rfl rfl rfl (fun K hK => ?t97) (fun K hK => ?t98) (fun K hK => ?t99)
  case' t97 =>
   go_simp
   refine (den3 (na := na) (ao := ao) (al := al) (ac := ac) da ⟨h1L, by omega⟩).mono ?_
   rintro e w2 ⟨uo, ul, uc, rfl, nu, b2⟩
   clear da
   replace ia := ia.below b2
   have B2 : Below W1.heap.size W1 w2 := bstep B0 b2
   go_wp2_with fail
   replace hHeld := KEEP _ B2
   refine hK.out _ _ (AllL.kept hHeld) ?_
   clear hK K
   try simp only [pu1, pu2, pu3, pu4]
   refine late_three 4 10 11 (by kernel_rfl) rfl rfl rfl (fun K hK => ?t54) (fun K hK => ?t55) (fun K hK => ?t56)
   case' t54 =>
    go_simp
    have iu := nu.ib
    refine (whole3 _ _ _ _).mono ?_
    rintro e w3 ⟨rfl, b3⟩
    replace iu := iu.below b3
    clear nu
    replace ia := ia.below b3
    have B3 : Below W1.heap.size W1 w3 := bstep B2 b3
    go_wp2_with fail
    replace hHeld := KEEP _ B3
    refine hK.out _ _ (AllL.kept hHeld) ?_
    clear hK K
    try simp only [pu1, pu2, pu3, pu4]
    refine late_three 5 10 11 (by kernel_rfl) rfl rfl rfl (fun K hK => ?t25) (fun K hK => ?t26) (fun K hK => ?t27)
    case' t25 =>
     go_simp
     have hc := rfloor ia iu (by omega)
     rw [HZ.out.1, HZ.out.2.1, HZ.out.2.2] at hc
     refine hc.mono ?_
     rintro e w4 ⟨mq, mr, rfl, hq, hr, hqr, b4⟩
     obtain ⟨mo, ml, mc, rfl⟩ := hq.sl
     obtain ⟨no, nl, nc, rfl⟩ := hr.sl
     clear hc hr
     replace hq := hq.mono (B' := W1.heap.size) B3.size
     clear hqr ia iu
     have B4 : Below W1.heap.size W1 w4 := bstep B3 b4
     go_wp2_with fail
     replace hHeld := KEEP _ B4
     refine hK.out _ _ (AllL.kept hHeld) ?_
     clear hK K
     try simp only [pu1, pu2, pu3, pu4]
     refine late_fr 6 (v := .tuple #[.agg #[.bool (decide (Z < 0)), .slice mo ml mc], .agg #[.bool (decide (R < 0)), .slice no nl nc], .int .i64 E]) rfl (Or.inl ⟨by rfl, ?_⟩) hHeld ?_
     · (intro u _; go_simp)
     try simp only [pu1, pu2, pu3, pu4]
     refine late_fr 7 (v := .agg #[.bool (decide (Z < 0)), .slice mo ml mc]) rfl (Or.inl ⟨by rfl, ?_⟩) hHeld ?_
     · (intro u _; go_simp)
     try simp only [pu1, pu2, pu3, pu4]
     refine late_fr 8 (v := .agg #[.bool (decide (R < 0)), .slice no nl nc]) rfl (Or.inl ⟨by rfl, ?_⟩) hHeld ?_
     · (intro u _; go_simp)
     try simp only [pu1, pu2, pu3, pu4]
     refine late_fr 9 (v := .int .i64 E) rfl (Or.inl ⟨by rfl, ?_⟩) hHeld ?_
     · (intro u _; go_simp)
     try simp only [pu1, pu2, pu3, pu4]
     refine late_two 10 11 (by kernel_rfl) rfl rfl (fun K hK => ?t9) (fun K hK => ?t10)
     case' t9 =>
      go_simp
      obtain ⟨w5, vx, hw, hv, pvx, b5, B5⟩ := new_pv B4
      rw [hw, hv]
      have hnx := own_ne_top hq
      rw [hv] at hnx
      clear hw hv
      replace hq := hq.below b5
      replace hHeld := KEEP _ B5
      refine hK.out _ _ (AllL.kept hHeld) ?_
      clear hK K
      try simp only [pu1, pu2, pu3, pu4]
      refine late_st 11 rfl (fun K hK => ?_)
      go_simp
      obtain ⟨w6, vy, hw, hv, pvy, b6, B6⟩ := new_pv B5
      rw [hw, hv]
      have hny := own_ne_top hq
      rw [hv] at hny
      have hxy : vx ≠ vy := by have := pvx.lt; omega
      clear hw hv
      replace hq := hq.below b6
      replace pvx := pvx.below b6
      replace hHeld := KEEP _ B6
      refine hK.out _ _ (AllL.kept hHeld) ?_
      clear hK K
      try simp only [pu1, pu2, pu3, pu4]
      have Bz := B6
     case' t10 =>
      go_simp
      obtain ⟨w7, vy, hw, hv, pvy, b7, B7⟩ := new_pv B4
      rw [hw, hv]
      have hny := own_ne_top hq
      rw [hv] at hny
      clear hw hv
      replace hq := hq.below b7
      replace hHeld := KEEP _ B7
      refine hK.out _ _ (AllL.kept hHeld) ?_
      clear hK K
      try simp only [pu1, pu2, pu3, pu4]
      refine late_st 10 rfl (fun K hK => ?_)
      go_simp
      obtain ⟨w8, vx, hw, hv, pvx, b8, B8⟩ := new_pv B7
      rw [hw, hv]
      have hnx := own_ne_top hq
      rw [hv] at hnx
      have hxy : vx ≠ vy := by have := pvy.lt; omega
      clear hw hv
      replace hq := hq.below b8
      replace pvy := pvy.below b8
      replace hHeld := KEEP _ B8
      refine hK.out _ _ (AllL.kept hHeld) ?_
      clear hK K
      try simp only [pu1, pu2, pu3, pu4]
      have Bz := B8
    case' t26 =>
     go_simp
     obtain ⟨w11, vx, hw, hv, pvx, b11, B11⟩ := new_pv B3
     rw [hw, hv]
     clear hw hv
     replace ia := ia.below b11
     replace iu := iu.below b11
     replace hHeld := KEEP _ B11
     refine hK.out _ _ (AllL.kept hHeld) ?_
     clear hK K
     try simp only [pu1, pu2, pu3, pu4]
     refine late_two 5 11 (by kernel_rfl) rfl rfl (fun K hK => ?t16) (fun K hK => ?t17)
     case' t16 =>
      go_simp
      have hc := rfloor ia iu (by omega)
      rw [HZ.out.1, HZ.out.2.1, HZ.out.2.2] at hc
      refine hc.mono ?_
      rintro e w12 ⟨mq, mr, rfl, hq, hr, hqr, b12⟩
      obtain ⟨mo, ml, mc, rfl⟩ := hq.sl
      obtain ⟨no, nl, nc, rfl⟩ := hr.sl
      clear hc hr
      have hnx := own_ne3 hq pvx.lt
      replace hq := hq.mono (B' := W1.heap.size) B11.size
      clear hqr ia iu
      replace pvx := pvx.below b12
      have B12 : Below W1.heap.size W1 w12 := bstep B11 b12
      go_wp2_with fail
      replace hHeld := KEEP _ B12
      refine hK.out _ _ (AllL.kept hHeld) ?_
      clear hK K
      try simp only [pu1, pu2, pu3, pu4]
      refine late_fr 6 (v := .tuple #[.agg #[.bool (decide (Z < 0)), .slice mo ml mc], .agg #[.bool (decide (R < 0)), .slice no nl nc], .int .i64 E]) rfl (Or.inl ⟨by rfl, ?_⟩) hHeld ?_
      · (intro u _; go_simp)
      try simp only [pu1, pu2, pu3, pu4]
      refine late_fr 7 (v := .agg #[.bool (decide (Z < 0)), .slice mo ml mc]) rfl (Or.inl ⟨by rfl, ?_⟩) hHeld ?_
      · (intro u _; go_simp)
      try simp only [pu1, pu2, pu3, pu4]
      refine late_fr 8 (v := .agg #[.bool (decide (R < 0)), .slice no nl nc]) rfl (Or.inl ⟨by rfl, ?_⟩) hHeld ?_
      · (intro u _; go_simp)
      try simp only [pu1, pu2, pu3, pu4]
      refine late_fr 9 (v := .int .i64 E) rfl (Or.inl ⟨by rfl, ?_⟩) hHeld ?_
      · (intro u _; go_simp)
      try simp only [pu1, pu2, pu3, pu4]
      refine late_st 11 rfl (fun K hK => ?_)
      go_simp
      obtain ⟨w13, vy, hw, hv, pvy, b13, B13⟩ := new_pv B12
      rw [hw, hv]
      have hny := own_ne_top hq
      rw [hv] at hny
      have hxy : vx ≠ vy := by have := pvx.lt; omega
      clear hw hv
      replace hq := hq.below b13
      replace pvx := pvx.below b13
      replace hHeld := KEEP _ B13
      refine hK.out _ _ (AllL.kept hHeld) ?_
      clear hK K
      try simp only [pu1, pu2, pu3, pu4]
      have Bz := B13
     case' t17 =>
      go_simp
      obtain ⟨w14, vy, hw, hv, pvy, b14, B14⟩ := new_pv B11
      rw [hw, hv]
      have hxy : vx ≠ vy := by have := pvx.lt; omega
      clear hw hv
      replace ia := ia.below b14
      replace iu := iu.below b14
      replace pvx := pvx.below b14
      replace hHeld := KEEP _ B14
      refine hK.out _ _ (AllL.kept hHeld) ?_
      clear hK K
      try simp only [pu1, pu2, pu3, pu4]
      refine late_st 5 rfl (fun K hK => ?_)
      go_simp
      have hc := rfloor ia iu (by omega)
      rw [HZ.out.1, HZ.out.2.1, HZ.out.2.2] at hc
      refine hc.mono ?_
      rintro e w15 ⟨mq, mr, rfl, hq, hr, hqr, b15⟩
      obtain ⟨mo, ml, mc, rfl⟩ := hq.sl
      obtain ⟨no, nl, nc, rfl⟩ := hr.sl
      clear hc hr
      have hnx := own_ne3 hq pvx.lt
      have hny := own_ne3 hq pvy.lt
      replace hq := hq.mono (B' := W1.heap.size) B14.size
      clear hqr ia iu
      replace pvx := pvx.below b15
      replace pvy := pvy.below b15
      have B15 : Below W1.heap.size W1 w15 := bstep B14 b15
      go_wp2_with fail
      replace hHeld := KEEP _ B15
      refine hK.out _ _ (AllL.kept hHeld) ?_
      clear hK K
      try simp only [pu1, pu2, pu3, pu4]
      refine late_fr 6 (v := .tuple #[.agg #[.bool (decide (Z < 0)), .slice mo ml mc], .agg #[.bool (decide (R < 0)), .slice no nl nc], .int .i64 E]) rfl (Or.inl ⟨by rfl, ?_⟩) hHeld ?_
      · (intro u _; go_simp)
      try simp only [pu1, pu2, pu3, pu4]
      refine late_fr 7 (v := .agg #[.bool (decide (Z < 0)), .slice mo ml mc]) rfl (Or.inl ⟨by rfl, ?_⟩) hHeld ?_
      · (intro u _; go_simp)
      try simp only [pu1, pu2, pu3, pu4]
      refine late_fr 8 (v := .agg #[.bool (decide (R < 0)), .slice no nl nc]) rfl (Or.inl ⟨by rfl, ?_⟩) hHeld ?_
      · (intro u _; go_simp)
      try simp only [pu1, pu2, pu3, pu4]
      refine late_fr 9 (v := .int .i64 E) rfl (Or.inl ⟨by rfl, ?_⟩) hHeld ?_
      · (intro u _; go_simp)
      try simp only [pu1, pu2, pu3, pu4]
      have Bz := B15
    case' t27 =>
     go_simp
     obtain ⟨w18, vy, hw, hv, pvy, b18, B18⟩ := new_pv B3
     rw [hw, hv]
     clear hw hv
     replace ia := ia.below b18
     replace iu := iu.below b18
     replace hHeld := KEEP _ B18
     refine hK.out _ _ (AllL.kept hHeld) ?_
     clear hK K
     try simp only [pu1, pu2, pu3, pu4]
     refine late_two 5 10 (by kernel_rfl) rfl rfl (fun K hK => ?t23) (fun K hK => ?t24)
     case' t23 =>
      go_simp
      have hc := rfloor ia iu (by omega)
      rw [HZ.out.1, HZ.out.2.1, HZ.out.2.2] at hc
      refine hc.mono ?_
      rintro e w19 ⟨mq, mr, rfl, hq, hr, hqr, b19⟩
      obtain ⟨mo, ml, mc, rfl⟩ := hq.sl
      obtain ⟨no, nl, nc, rfl⟩ := hr.sl
      clear hc hr
      have hny := own_ne3 hq pvy.lt
      replace hq := hq.mono (B' := W1.heap.size) B18.size
      clear hqr ia iu
      replace pvy := pvy.below b19
      have B19 : Below W1.heap.size W1 w19 := bstep B18 b19
      go_wp2_with fail
      replace hHeld := KEEP _ B19
      refine hK.out _ _ (AllL.kept hHeld) ?_
      clear hK K
      try simp only [pu1, pu2, pu3, pu4]
      refine late_fr 6 (v := .tuple #[.agg #[.bool (decide (Z < 0)), .slice mo ml mc], .agg #[.bool (decide (R < 0)), .slice no nl nc], .int .i64 E]) rfl (Or.inl ⟨by rfl, ?_⟩) hHeld ?_
      · (intro u _; go_simp)
      try simp only [pu1, pu2, pu3, pu4]
      refine late_fr 7 (v := .agg #[.bool (decide (Z < 0)), .slice mo ml mc]) rfl (Or.inl ⟨by rfl, ?_⟩) hHeld ?_
      · (intro u _; go_simp)
      try simp only [pu1, pu2, pu3, pu4]
      refine late_fr 8 (v := .agg #[.bool (decide (R < 0)), .slice no nl nc]) rfl (Or.inl ⟨by rfl, ?_⟩) hHeld ?_
      · (intro u _; go_simp)
      try simp only [pu1, pu2, pu3, pu4]
      refine late_fr 9 (v := .int .i64 E) rfl (Or.inl ⟨by rfl, ?_⟩) hHeld ?_
      · (intro u _; go_simp)
      try simp only [pu1, pu2, pu3, pu4]
      refine late_st 10 rfl (fun K hK => ?_)
      go_simp
      obtain ⟨w20, vx, hw, hv, pvx, b20, B20⟩ := new_pv B19
      rw [hw, hv]
      have hnx := own_ne_top hq
      rw [hv] at hnx
      have hxy : vx ≠ vy := by have := pvy.lt; omega
      clear hw hv
      replace hq := hq.below b20
      replace pvy := pvy.below b20
      replace hHeld := KEEP _ B20
      refine hK.out _ _ (AllL.kept hHeld) ?_
      clear hK K
      try simp only [pu1, pu2, pu3, pu4]
      have Bz := B20
     case' t24 =>
      go_simp
      obtain ⟨w21, vx, hw, hv, pvx, b21, B21⟩ := new_pv B18
      rw [hw, hv]
      have hxy : vx ≠ vy := by have := pvy.lt; omega
      clear hw hv
      replace ia := ia.below b21
      replace iu := iu.below b21
      replace pvy := pvy.below b21
      replace hHeld := KEEP _ B21
      refine hK.out _ _ (AllL.kept hHeld) ?_
      clear hK K
      try simp only [pu1, pu2, pu3, pu4]
      refine late_st 5 rfl (fun K hK => ?_)
      go_simp
      have hc := rfloor ia iu (by omega)
      rw [HZ.out.1, HZ.out.2.1, HZ.out.2.2] at hc
      refine hc.mono ?_
      rintro e w22 ⟨mq, mr, rfl, hq, hr, hqr, b22⟩
      obtain ⟨mo, ml, mc, rfl⟩ := hq.sl
      obtain ⟨no, nl, nc, rfl⟩ := hr.sl
      clear hc hr
      have hny := own_ne3 hq pvy.lt
      have hnx := own_ne3 hq pvx.lt
      replace hq := hq.mono (B' := W1.heap.size) B21.size
      clear hqr ia iu
      replace pvy := pvy.below b22
      replace pvx := pvx.below b22
      have B22 : Below W1.heap.size W1 w22 := bstep B21 b22
      go_wp2_with fail
      replace hHeld := KEEP _ B22
      refine hK.out _ _ (AllL.kept hHeld) ?_
      clear hK K
      try simp only [pu1, pu2, pu3, pu4]
      refine late_fr 6 (v := .tuple #[.agg #[.bool (decide (Z < 0)), .slice mo ml mc], .agg #[.bool (decide (R < 0)), .slice no nl nc], .int .i64 E]) rfl (Or.inl ⟨by rfl, ?_⟩) hHeld ?_
      · (intro u _; go_simp)
      try simp only [pu1, pu2, pu3, pu4]
      refine late_fr 7 (v := .agg #[.bool (decide (Z < 0)), .slice mo ml mc]) rfl (Or.inl ⟨by rfl, ?_⟩) hHeld ?_
      · (intro u _; go_simp)
      try simp only [pu1, pu2, pu3, pu4]
      refine late_fr 8 (v := .agg #[.bool (decide (R < 0)), .slice no nl nc]) rfl (Or.inl ⟨by rfl, ?_⟩) hHeld ?_
      · (intro u _; go_simp)
      try simp only [pu1, pu2, pu3, pu4]
      refine late_fr 9 (v := .int .i64 E) rfl (Or.inl ⟨by rfl, ?_⟩) hHeld ?_
      · (intro u _; go_simp)
      try simp only [pu1, pu2, pu3, pu4]
      have Bz := B22
   case' t55 =>
    go_simp
    obtain ⟨w28, vx, hw, hv, pvx, b28, B28⟩ := new_pv B2
    rw [hw, hv]
    clear hw hv
    replace ia := ia.below b28
    replace nu := nu.below b28
    replace hHeld := KEEP _ B28
    refine hK.out _ _ (AllL.kept hHeld) ?_
    clear hK K
    try simp only [pu1, pu2, pu3, pu4]
    refine late_two 4 11 (by kernel_rfl) rfl rfl (fun K hK => ?t39) (fun K hK => ?t40)
    case' t39 =>
     go_simp
     have iu := nu.ib
     refine (whole3 _ _ _ _).mono ?_
     rintro e w29 ⟨rfl, b29⟩
     replace iu := iu.below b29
     clear nu
     replace ia := ia.below b29
     replace pvx := pvx.below b29
     have B29 : Below W1.heap.size W1 w29 := bstep B28 b29
     go_wp2_with fail
     replace hHeld := KEEP _ B29
     refine hK.out _ _ (AllL.kept hHeld) ?_
     clear hK K
     try simp only [pu1, pu2, pu3, pu4]
     refine late_two 5 11 (by kernel_rfl) rfl rfl (fun K hK => ?t34) (fun K hK => ?t35)
     case' t34 =>
      go_simp
      have hc := rfloor ia iu (by omega)
      rw [HZ.out.1, HZ.out.2.1, HZ.out.2.2] at hc
      refine hc.mono ?_
      rintro e w30 ⟨mq, mr, rfl, hq, hr, hqr, b30⟩
      obtain ⟨mo, ml, mc, rfl⟩ := hq.sl
      obtain ⟨no, nl, nc, rfl⟩ := hr.sl
      clear hc hr
      have hnx := own_ne3 hq pvx.lt
      replace hq := hq.mono (B' := W1.heap.size) B29.size
      clear hqr ia iu
      replace pvx := pvx.below b30
      have B30 : Below W1.heap.size W1 w30 := bstep B29 b30
      go_wp2_with fail
      replace hHeld := KEEP _ B30
      refine hK.out _ _ (AllL.kept hHeld) ?_
      clear hK K
      try simp only [pu1, pu2, pu3, pu4]
      refine late_fr 6 (v := .tuple #[.agg #[.bool (decide (Z < 0)), .slice mo ml mc], .agg #[.bool (decide (R < 0)), .slice no nl nc], .int .i64 E]) rfl (Or.inl ⟨by rfl, ?_⟩) hHeld ?_
      · (intro u _; go_simp)
      try simp only [pu1, pu2, pu3, pu4]
      refine late_fr 7 (v := .agg #[.bool (decide (Z < 0)), .slice mo ml mc]) rfl (Or.inl ⟨by rfl, ?_⟩) hHeld ?_
      · (intro u _; go_simp)
      try simp only [pu1, pu2, pu3, pu4]
      refine late_fr 8 (v := .agg #[.bool (decide (R < 0)), .slice no nl nc]) rfl (Or.inl ⟨by rfl, ?_⟩) hHeld ?_
      · (intro u _; go_simp)
      try simp only [pu1, pu2, pu3, pu4]
      refine late_fr 9 (v := .int .i64 E) rfl (Or.inl ⟨by rfl, ?_⟩) hHeld ?_
      · (intro u _; go_simp)
      try simp only [pu1, pu2, pu3, pu4]
      refine late_st 11 rfl (fun K hK => ?_)
      go_simp
      obtain ⟨w31, vy, hw, hv, pvy, b31, B31⟩ := new_pv B30
      rw [hw, hv]
      have hny := own_ne_top hq
      rw [hv] at hny
      have hxy : vx ≠ vy := by have := pvx.lt; omega
      clear hw hv
      replace hq := hq.below b31
      replace pvx := pvx.below b31
      replace hHeld := KEEP _ B31
      refine hK.out _ _ (AllL.kept hHeld) ?_
      clear hK K
      try simp only [pu1, pu2, pu3, pu4]
      have Bz := B31
     case' t35 =>
      go_simp
      obtain ⟨w32, vy, hw, hv, pvy, b32, B32⟩ := new_pv B29
      rw [hw, hv]
      have hxy : vx ≠ vy := by have := pvx.lt; omega
      clear hw hv
      replace ia := ia.below b32
      replace iu := iu.below b32
      replace pvx := pvx.below b32
      replace hHeld := KEEP _ B32
      refine hK.out _ _ (AllL.kept hHeld) ?_
      clear hK K
      try simp only [pu1, pu2, pu3, pu4]
      refine late_st 5 rfl (fun K hK => ?_)
      go_simp
      have hc := rfloor ia iu (by omega)
      rw [HZ.out.1, HZ.out.2.1, HZ.out.2.2] at hc
      refine hc.mono ?_
      rintro e w33 ⟨mq, mr, rfl, hq, hr, hqr, b33⟩
      obtain ⟨mo, ml, mc, rfl⟩ := hq.sl
      obtain ⟨no, nl, nc, rfl⟩ := hr.sl
      clear hc hr
      have hnx := own_ne3 hq pvx.lt
      have hny := own_ne3 hq pvy.lt
      replace hq := hq.mono (B' := W1.heap.size) B32.size
      clear hqr ia iu
      replace pvx := pvx.below b33
      replace pvy := pvy.below b33
      have B33 : Below W1.heap.size W1 w33 := bstep B32 b33
      go_wp2_with fail
      replace hHeld := KEEP _ B33
      refine hK.out _ _ (AllL.kept hHeld) ?_
      clear hK K
      try simp only [pu1, pu2, pu3, pu4]
      refine late_fr 6 (v := .tuple #[.agg #[.bool (decide (Z < 0)), .slice mo ml mc], .agg #[.bool (decide (R < 0)), .slice no nl nc], .int .i64 E]) rfl (Or.inl ⟨by rfl, ?_⟩) hHeld ?_
      · (intro u _; go_simp)
      try simp only [pu1, pu2, pu3, pu4]
      refine late_fr 7 (v := .agg #[.bool (decide (Z < 0)), .slice mo ml mc]) rfl (Or.inl ⟨by rfl, ?_⟩) hHeld ?_
      · (intro u _; go_simp)
      try simp only [pu1, pu2, pu3, pu4]
      refine late_fr 8 (v := .agg #[.bool (decide (R < 0)), .slice no nl nc]) rfl (Or.inl ⟨by rfl, ?_⟩) hHeld ?_
      · (intro u _; go_simp)
      try simp only [pu1, pu2, pu3, pu4]
      refine late_fr 9 (v := .int .i64 E) rfl (Or.inl ⟨by rfl, ?_⟩) hHeld ?_
      · (intro u _; go_simp)
      try simp only [pu1, pu2, pu3, pu4]
      have Bz := B33
    case' t40 =>
     go_simp
     obtain ⟨w36, vy, hw, hv, pvy, b36, B36⟩ := new_pv B28
     rw [hw, hv]
     have hxy : vx ≠ vy := by have := pvx.lt; omega
     clear hw hv
     replace ia := ia.below b36
     replace nu := nu.below b36
     replace pvx := pvx.below b36
     replace hHeld := KEEP _ B36
     refine hK.out _ _ (AllL.kept hHeld) ?_
     clear hK K
     try simp only [pu1, pu2, pu3, pu4]
     refine late_st 4 rfl (fun K hK => ?_)
     go_simp
     have iu := nu.ib
     refine (whole3 _ _ _ _).mono ?_
     rintro e w37 ⟨rfl, b37⟩
     replace iu := iu.below b37
     clear nu
     replace ia := ia.below b37
     replace pvx := pvx.below b37
     replace pvy := pvy.below b37
     have B37 : Below W1.heap.size W1 w37 := bstep B36 b37
     go_wp2_with fail
     replace hHeld := KEEP _ B37
     refine hK.out _ _ (AllL.kept hHeld) ?_
     clear hK K
     try simp only [pu1, pu2, pu3, pu4]
     refine late_st 5 rfl (fun K hK => ?_)
     go_simp
     have hc := rfloor ia iu (by omega)
     rw [HZ.out.1, HZ.out.2.1, HZ.out.2.2] at hc
     refine hc.mono ?_
     rintro e w38 ⟨mq, mr, rfl, hq, hr, hqr, b38⟩
     obtain ⟨mo, ml, mc, rfl⟩ := hq.sl
     obtain ⟨no, nl, nc, rfl⟩ := hr.sl
     clear hc hr
     have hnx := own_ne3 hq pvx.lt
     have hny := own_ne3 hq pvy.lt
     replace hq := hq.mono (B' := W1.heap.size) B37.size
     clear hqr ia iu
     replace pvx := pvx.below b38
     replace pvy := pvy.below b38
     have B38 : Below W1.heap.size W1 w38 := bstep B37 b38
     go_wp2_with fail
     replace hHeld := KEEP _ B38
     refine hK.out _ _ (AllL.kept hHeld) ?_
     clear hK K
     try simp only [pu1, pu2, pu3, pu4]
     refine late_fr 6 (v := .tuple #[.agg #[.bool (decide (Z < 0)), .slice mo ml mc], .agg #[.bool (decide (R < 0)), .slice no nl nc], .int .i64 E]) rfl (Or.inl ⟨by rfl, ?_⟩) hHeld ?_
     · (intro u _; go_simp)
     try simp only [pu1, pu2, pu3, pu4]
     refine late_fr 7 (v := .agg #[.bool (decide (Z < 0)), .slice mo ml mc]) rfl (Or.inl ⟨by rfl, ?_⟩) hHeld ?_
     · (intro u _; go_simp)
     try simp only [pu1, pu2, pu3, pu4]
     refine late_fr 8 (v := .agg #[.bool (decide (R < 0)), .slice no nl nc]) rfl (Or.inl ⟨by rfl, ?_⟩) hHeld ?_
     · (intro u _; go_simp)
     try simp only [pu1, pu2, pu3, pu4]
     refine late_fr 9 (v := .int .i64 E) rfl (Or.inl ⟨by rfl, ?_⟩) hHeld ?_
     · (intro u _; go_simp)
     try simp only [pu1, pu2, pu3, pu4]
     have Bz := B38
   case' t56 =>
    go_simp
    obtain ⟨w41, vy, hw, hv, pvy, b41, B41⟩ := new_pv B2
    rw [hw, hv]
    clear hw hv
    replace ia := ia.below b41
    replace nu := nu.below b41
    replace hHeld := KEEP _ B41
    refine hK.out _ _ (AllL.kept hHeld) ?_
    clear hK K
    try simp only [pu1, pu2, pu3, pu4]
    refine late_two 4 10 (by kernel_rfl) rfl rfl (fun K hK => ?t52) (fun K hK => ?t53)
    case' t52 =>
     go_simp
     have iu := nu.ib
     refine (whole3 _ _ _ _).mono ?_
     rintro e w42 ⟨rfl, b42⟩
     replace iu := iu.below b42
     clear nu
     replace ia := ia.below b42
     replace pvy := pvy.below b42
     have B42 : Below W1.heap.size W1 w42 := bstep B41 b42
     go_wp2_with fail
     replace hHeld := KEEP _ B42
     refine hK.out _ _ (AllL.kept hHeld) ?_
     clear hK K
     try simp only [pu1, pu2, pu3, pu4]
     refine late_two 5 10 (by kernel_rfl) rfl rfl (fun K hK => ?t47) (fun K hK => ?t48)
     case' t47 =>
      go_simp
      have hc := rfloor ia iu (by omega)
      rw [HZ.out.1, HZ.out.2.1, HZ.out.2.2] at hc
      refine hc.mono ?_
      rintro e w43 ⟨mq, mr, rfl, hq, hr, hqr, b43⟩
      obtain ⟨mo, ml, mc, rfl⟩ := hq.sl
      obtain ⟨no, nl, nc, rfl⟩ := hr.sl
      clear hc hr
      have hny := own_ne3 hq pvy.lt
      replace hq := hq.mono (B' := W1.heap.size) B42.size
      clear hqr ia iu
      replace pvy := pvy.below b43
      have B43 : Below W1.heap.size W1 w43 := bstep B42 b43
      go_wp2_with fail
      replace hHeld := KEEP _ B43
      refine hK.out _ _ (AllL.kept hHeld) ?_
      clear hK K
      try simp only [pu1, pu2, pu3, pu4]
      refine late_fr 6 (v := .tuple #[.agg #[.bool (decide (Z < 0)), .slice mo ml mc], .agg #[.bool (decide (R < 0)), .slice no nl nc], .int .i64 E]) rfl (Or.inl ⟨by rfl, ?_⟩) hHeld ?_
      · (intro u _; go_simp)
      try simp only [pu1, pu2, pu3, pu4]
      refine late_fr 7 (v := .agg #[.bool (decide (Z < 0)), .slice mo ml mc]) rfl (Or.inl ⟨by rfl, ?_⟩) hHeld ?_
      · (intro u _; go_simp)
      try simp only [pu1, pu2, pu3, pu4]
      refine late_fr 8 (v := .agg #[.bool (decide (R < 0)), .slice no nl nc]) rfl (Or.inl ⟨by rfl, ?_⟩) hHeld ?_
      · (intro u _; go_simp)
      try simp only [pu1, pu2, pu3, pu4]
      refine late_fr 9 (v := .int .i64 E) rfl (Or.inl ⟨by rfl, ?_⟩) hHeld ?_
      · (intro u _; go_simp)
      try simp only [pu1, pu2, pu3, pu4]
      refine late_st 10 rfl (fun K hK => ?_)
      go_simp
      obtain ⟨w44, vx, hw, hv, pvx, b44, B44⟩ := new_pv B43
      rw [hw, hv]
      have hnx := own_ne_top hq
      rw [hv] at hnx
      have hxy : vx ≠ vy := by have := pvy.lt; omega
      clear hw hv
      replace hq := hq.below b44
      replace pvy := pvy.below b44
      replace hHeld := KEEP _ B44
      refine hK.out _ _ (AllL.kept hHeld) ?_
      clear hK K
      try simp only [pu1, pu2, pu3, pu4]
      have Bz := B44
     case' t48 =>
      go_simp
      obtain ⟨w45, vx, hw, hv, pvx, b45, B45⟩ := new_pv B42
      rw [hw, hv]
      have hxy : vx ≠ vy := by have := pvy.lt; omega
      clear hw hv
      replace ia := ia.below b45
      replace iu := iu.below b45
      replace pvy := pvy.below b45
      replace hHeld := KEEP _ B45
      refine hK.out _ _ (AllL.kept hHeld) ?_
      clear hK K
      try simp only [pu1, pu2, pu3, pu4]
      refine late_st 5 rfl (fun K hK => ?_)
      go_simp
      have hc := rfloor ia iu (by omega)
      rw [HZ.out.1, HZ.out.2.1, HZ.out.2.2] at hc
      refine hc.mono ?_
      rintro e w46 ⟨mq, mr, rfl, hq, hr, hqr, b46⟩
      obtain ⟨mo, ml, mc, rfl⟩ := hq.sl
      obtain ⟨no, nl, nc, rfl⟩ := hr.sl
      clear hc hr
      have hny := own_ne3 hq pvy.lt
      have hnx := own_ne3 hq pvx.lt
      replace hq := hq.mono (B' := W1.heap.size) B45.size
      clear hqr ia iu
      replace pvy := pvy.below b46
      replace pvx := pvx.below b46
      have B46 : Below W1.heap.size W1 w46 := bstep B45 b46
      go_wp2_with fail
      replace hHeld := KEEP _ B46
      refine hK.out _ _ (AllL.kept hHeld) ?_
      clear hK K
      try simp only [pu1, pu2, pu3, pu4]
      refine late_fr 6 (v := .tuple #[.agg #[.bool (decide (Z < 0)), .slice mo ml mc], .agg #[.bool (decide (R < 0)), .slice no nl nc], .int .i64 E]) rfl (Or.inl ⟨by rfl, ?_⟩) hHeld ?_
      · (intro u _; go_simp)
      try simp only [pu1, pu2, pu3, pu4]
      refine late_fr 7 (v := .agg #[.bool (decide (Z < 0)), .slice mo ml mc]) rfl (Or.inl ⟨by rfl, ?_⟩) hHeld ?_
      · (intro u _; go_simp)
      try simp only [pu1, pu2, pu3, pu4]
      refine late_fr 8 (v := .agg #[.bool (decide (R < 0)), .slice no nl nc]) rfl (Or.inl ⟨by rfl, ?_⟩) hHeld ?_
      · (intro u _; go_simp)
      try simp only [pu1, pu2, pu3, pu4]
      refine late_fr 9 (v := .int .i64 E) rfl (Or.inl ⟨by rfl, ?_⟩) hHeld ?_
      · (intro u _; go_simp)
      try simp only [pu1, pu2, pu3, pu4]
      have Bz := B46
    case' t53 =>
     go_simp
     obtain ⟨w49, vx, hw, hv, pvx, b49, B49⟩ := new_pv B41
     rw [hw, hv]
     have hxy : vx ≠ vy := by have := pvy.lt; omega
     clear hw hv
     replace ia := ia.below b49
     replace nu := nu.below b49
     replace pvy := pvy.below b49
     replace hHeld := KEEP _ B49
     refine hK.out _ _ (AllL.kept hHeld) ?_
     clear hK K
     try simp only [pu1, pu2, pu3, pu4]
     refine late_st 4 rfl (fun K hK => ?_)
     go_simp
     have iu := nu.ib
     refine (whole3 _ _ _ _).mono ?_
     rintro e w50 ⟨rfl, b50⟩
     replace iu := iu.below b50
     clear nu
     replace ia := ia.below b50
     replace pvy := pvy.below b50
     replace pvx := pvx.below b50
     have B50 : Below W1.heap.size W1 w50 := bstep B49 b50
     go_wp2_with fail
     replace hHeld := KEEP _ B50
     refine hK.out _ _ (AllL.kept hHeld) ?_
     clear hK K
     try simp only [pu1, pu2, pu3, pu4]
     refine late_st 5 rfl (fun K hK => ?_)
     go_simp
     have hc := rfloor ia iu (by omega)
     rw [HZ.out.1, HZ.out.2.1, HZ.out.2.2] at hc
     refine hc.mono ?_
     rintro e w51 ⟨mq, mr, rfl, hq, hr, hqr, b51⟩
     obtain ⟨mo, ml, mc, rfl⟩ := hq.sl
     obtain ⟨no, nl, nc, rfl⟩ := hr.sl
     clear hc hr
     have hny := own_ne3 hq pvy.lt
     have hnx := own_ne3 hq pvx.lt
     replace hq := hq.mono (B' := W1.heap.size) B50.size
     clear hqr ia iu
     replace pvy := pvy.below b51
     replace pvx := pvx.below b51
     have B51 : Below W1.heap.size W1 w51 := bstep B50 b51
     go_wp2_with fail
     replace hHeld := KEEP _ B51
     refine hK.out _ _ (AllL.kept hHeld) ?_
     clear hK K
     try simp only [pu1, pu2, pu3, pu4]
     refine late_fr 6 (v := .tuple #[.agg #[.bool (decide (Z < 0)), .slice mo ml mc], .agg #[.bool (decide (R < 0)), .slice no nl nc], .int .i64 E]) rfl (Or.inl ⟨by rfl, ?_⟩) hHeld ?_
     · (intro u _; go_simp)
     try simp only [pu1, pu2, pu3, pu4]
     refine late_fr 7 (v := .agg #[.bool (decide (Z < 0)), .slice mo ml mc]) rfl (Or.inl ⟨by rfl, ?_⟩) hHeld ?_
     · (intro u _; go_simp)
     try simp only [pu1, pu2, pu3, pu4]
     refine late_fr 8 (v := .agg #[.bool (decide (R < 0)), .slice no nl nc]) rfl (Or.inl ⟨by rfl, ?_⟩) hHeld ?_
     · (intro u _; go_simp)
     try simp only [pu1, pu2, pu3, pu4]
     refine late_fr 9 (v := .int .i64 E) rfl (Or.inl ⟨by rfl, ?_⟩) hHeld ?_
     · (intro u _; go_simp)
     try simp only [pu1, pu2, pu3, pu4]
     have Bz := B51
  case' t98 =>
   go_simp
   obtain ⟨w57, vx, hw, hv, pvx, b57, B57⟩ := new_pv B0
   rw [hw, hv]
   clear hw hv
   replace ia := ia.below b57
   replace da := da.below b57
   replace hHeld := KEEP _ B57
   refine hK.out _ _ (AllL.kept hHeld) ?_
   clear hK K
   try simp only [pu1, pu2, pu3, pu4]
   refine late_two 3 11 (by kernel_rfl) rfl rfl (fun K hK => ?t75) (fun K hK => ?t76)
   case' t75 =>
    go_simp
    refine (den3 (na := na) (ao := ao) (al := al) (ac := ac) da ⟨h1L, by omega⟩).mono ?_
    rintro e w58 ⟨uo, ul, uc, rfl, nu, b58⟩
    clear da
    replace ia := ia.below b58
    replace pvx := pvx.below b58
    have B58 : Below W1.heap.size W1 w58 := bstep B57 b58
    go_wp2_with fail
    replace hHeld := KEEP _ B58
    refine hK.out _ _ (AllL.kept hHeld) ?_
    clear hK K
    try simp only [pu1, pu2, pu3, pu4]
    refine late_two 4 11 (by kernel_rfl) rfl rfl (fun K hK => ?t69) (fun K hK => ?t70)
    case' t69 =>
     go_simp
     have iu := nu.ib
     refine (whole3 _ _ _ _).mono ?_
     rintro e w59 ⟨rfl, b59⟩
     replace iu := iu.below b59
     clear nu
     replace ia := ia.below b59
     replace pvx := pvx.below b59
     have B59 : Below W1.heap.size W1 w59 := bstep B58 b59
     go_wp2_with fail
     replace hHeld := KEEP _ B59
     refine hK.out _ _ (AllL.kept hHeld) ?_
     clear hK K
     try simp only [pu1, pu2, pu3, pu4]
     refine late_two 5 11 (by kernel_rfl) rfl rfl (fun K hK => ?t64) (fun K hK => ?t65)
     case' t64 =>
      go_simp
      have hc := rfloor ia iu (by omega)
      rw [HZ.out.1, HZ.out.2.1, HZ.out.2.2] at hc
      refine hc.mono ?_
      rintro e w60 ⟨mq, mr, rfl, hq, hr, hqr, b60⟩
      obtain ⟨mo, ml, mc, rfl⟩ := hq.sl
      obtain ⟨no, nl, nc, rfl⟩ := hr.sl
      clear hc hr
      have hnx := own_ne3 hq pvx.lt
      replace hq := hq.mono (B' := W1.heap.size) B59.size
      clear hqr ia iu
      replace pvx := pvx.below b60
      have B60 : Below W1.heap.size W1 w60 := bstep B59 b60
      go_wp2_with fail
      replace hHeld := KEEP _ B60
      refine hK.out _ _ (AllL.kept hHeld) ?_
      clear hK K
      try simp only [pu1, pu2, pu3, pu4]
      refine late_fr 6 (v := .tuple #[.agg #[.bool (decide (Z < 0)), .slice mo ml mc], .agg #[.bool (decide (R < 0)), .slice no nl nc], .int .i64 E]) rfl (Or.inl ⟨by rfl, ?_⟩) hHeld ?_
      · (intro u _; go_simp)
      try simp only [pu1, pu2, pu3, pu4]
      refine late_fr 7 (v := .agg #[.bool (decide (Z < 0)), .slice mo ml mc]) rfl (Or.inl ⟨by rfl, ?_⟩) hHeld ?_
      · (intro u _; go_simp)
      try simp only [pu1, pu2, pu3, pu4]
      refine late_fr 8 (v := .agg #[.bool (decide (R < 0)), .slice no nl nc]) rfl (Or.inl ⟨by rfl, ?_⟩) hHeld ?_
      · (intro u _; go_simp)
      try simp only [pu1, pu2, pu3, pu4]
      refine late_fr 9 (v := .int .i64 E) rfl (Or.inl ⟨by rfl, ?_⟩) hHeld ?_
      · (intro u _; go_simp)
      try simp only [pu1, pu2, pu3, pu4]
      refine late_st 11 rfl (fun K hK => ?_)
      go_simp
      obtain ⟨w61, vy, hw, hv, pvy, b61, B61⟩ := new_pv B60
      rw [hw, hv]
      have hny := own_ne_top hq
      rw [hv] at hny
      have hxy : vx ≠ vy := by have := pvx.lt; omega
      clear hw hv
      replace hq := hq.below b61
      replace pvx := pvx.below b61
      replace hHeld := KEEP _ B61
      refine hK.out _ _ (AllL.kept hHeld) ?_
      clear hK K
      try simp only [pu1, pu2, pu3, pu4]
      have Bz := B61
     case' t65 =>
      go_simp
      obtain ⟨w62, vy, hw, hv, pvy, b62, B62⟩ := new_pv B59
      rw [hw, hv]
      have hxy : vx ≠ vy := by have := pvx.lt; omega
      clear hw hv
      replace ia := ia.below b62
      replace iu := iu.below b62
      replace pvx := pvx.below b62
      replace hHeld := KEEP _ B62
      refine hK.out _ _ (AllL.kept hHeld) ?_
      clear hK K
      try simp only [pu1, pu2, pu3, pu4]
      refine late_st 5 rfl (fun K hK => ?_)
      go_simp
      have hc := rfloor ia iu (by omega)
      rw [HZ.out.1, HZ.out.2.1, HZ.out.2.2] at hc
      refine hc.mono ?_
      rintro e w63 ⟨mq, mr, rfl, hq, hr, hqr, b63⟩
      obtain ⟨mo, ml, mc, rfl⟩ := hq.sl
      obtain ⟨no, nl, nc, rfl⟩ := hr.sl
      clear hc hr
      have hnx := own_ne3 hq pvx.lt
      have hny := own_ne3 hq pvy.lt
      replace hq := hq.mono (B' := W1.heap.size) B62.size
      clear hqr ia iu
      replace pvx := pvx.below b63
      replace pvy := pvy.below b63
      have B63 : Below W1.heap.size W1 w63 := bstep B62 b63
      go_wp2_with fail
      replace hHeld := KEEP _ B63
      refine hK.out _ _ (AllL.kept hHeld) ?_
      clear hK K
      try simp only [pu1, pu2, pu3, pu4]
      refine late_fr 6 (v := .tuple #[.agg #[.bool (decide (Z < 0)), .slice mo ml mc], .agg #[.bool (decide (R < 0)), .slice no nl nc], .int .i64 E]) rfl (Or.inl ⟨by rfl, ?_⟩) hHeld ?_
      · (intro u _; go_simp)
      try simp only [pu1, pu2, pu3, pu4]
      refine late_fr 7 (v := .agg #[.bool (decide (Z < 0)), .slice mo ml mc]) rfl (Or.inl ⟨by rfl, ?_⟩) hHeld ?_
      · (intro u _; go_simp)
      try simp only [pu1, pu2, pu3, pu4]
      refine late_fr 8 (v := .agg #[.bool (decide (R < 0)), .slice no nl nc]) rfl (Or.inl ⟨by rfl, ?_⟩) hHeld ?_
      · (intro u _; go_simp)
      try simp only [pu1, pu2, pu3, pu4]
      refine late_fr 9 (v := .int .i64 E) rfl (Or.inl ⟨by rfl, ?_⟩) hHeld ?_
      · (intro u _; go_simp)
      try simp only [pu1, pu2, pu3, pu4]
      have Bz := B63
    case' t70 =>
     go_simp
     obtain ⟨w66, vy, hw, hv, pvy, b66, B66⟩ := new_pv B58
     rw [hw, hv]
     have hxy : vx ≠ vy := by have := pvx.lt; omega
     clear hw hv
     replace ia := ia.below b66
     replace nu := nu.below b66
     replace pvx := pvx.below b66
     replace hHeld := KEEP _ B66
     refine hK.out _ _ (AllL.kept hHeld) ?_
     clear hK K
     try simp only [pu1, pu2, pu3, pu4]
     refine late_st 4 rfl (fun K hK => ?_)
     go_simp
     have iu := nu.ib
     refine (whole3 _ _ _ _).mono ?_
     rintro e w67 ⟨rfl, b67⟩
     replace iu := iu.below b67
     clear nu
     replace ia := ia.below b67
     replace pvx := pvx.below b67
     replace pvy := pvy.below b67
     have B67 : Below W1.heap.size W1 w67 := bstep B66 b67
     go_wp2_with fail
     replace hHeld := KEEP _ B67
     refine hK.out _ _ (AllL.kept hHeld) ?_
     clear hK K
     try simp only [pu1, pu2, pu3, pu4]
     refine late_st 5 rfl (fun K hK => ?_)
     go_simp
     have hc := rfloor ia iu (by omega)
     rw [HZ.out.1, HZ.out.2.1, HZ.out.2.2] at hc
     refine hc.mono ?_
     rintro e w68 ⟨mq, mr, rfl, hq, hr, hqr, b68⟩
     obtain ⟨mo, ml, mc, rfl⟩ := hq.sl
     obtain ⟨no, nl, nc, rfl⟩ := hr.sl
     clear hc hr
     have hnx := own_ne3 hq pvx.lt
     have hny := own_ne3 hq pvy.lt
     replace hq := hq.mono (B' := W1.heap.size) B67.size
     clear hqr ia iu
     replace pvx := pvx.below b68
     replace pvy := pvy.below b68
     have B68 : Below W1.heap.size W1 w68 := bstep B67 b68
     go_wp2_with fail
     replace hHeld := KEEP _ B68
     refine hK.out _ _ (AllL.kept hHeld) ?_
     clear hK K
     try simp only [pu1, pu2, pu3, pu4]
     refine late_fr 6 (v := .tuple #[.agg #[.bool (decide (Z < 0)), .slice mo ml mc], .agg #[.bool (decide (R < 0)), .slice no nl nc], .int .i64 E]) rfl (Or.inl ⟨by rfl, ?_⟩) hHeld ?_
     · (intro u _; go_simp)
     try simp only [pu1, pu2, pu3, pu4]
     refine late_fr 7 (v := .agg #[.bool (decide (Z < 0)), .slice mo ml mc]) rfl (Or.inl ⟨by rfl, ?_⟩) hHeld ?_
     · (intro u _; go_simp)
     try simp only [pu1, pu2, pu3, pu4]
     refine late_fr 8 (v := .agg #[.bool (decide (R < 0)), .slice no nl nc]) rfl (Or.inl ⟨by rfl, ?_⟩) hHeld ?_
     · (intro u _; go_simp)
     try simp only [pu1, pu2, pu3, pu4]
     refine late_fr 9 (v := .int .i64 E) rfl (Or.inl ⟨by rfl, ?_⟩) hHeld ?_
     · (intro u _; go_simp)
     try simp only [pu1, pu2, pu3, pu4]
     have Bz := B68
   case' t76 =>
    go_simp
    obtain ⟨w71, vy, hw, hv, pvy, b71, B71⟩ := new_pv B57
    rw [hw, hv]
    have hxy : vx ≠ vy := by have := pvx.lt; omega
    clear hw hv
    replace ia := ia.below b71
    replace da := da.below b71
    replace pvx := pvx.below b71
    replace hHeld := KEEP _ B71
    refine hK.out _ _ (AllL.kept hHeld) ?_
    clear hK K
    try simp only [pu1, pu2, pu3, pu4]
    refine late_st 3 rfl (fun K hK => ?_)
    go_simp
    refine (den3 (na := na) (ao := ao) (al := al) (ac := ac) da ⟨h1L, by omega⟩).mono ?_
    rintro e w72 ⟨uo, ul, uc, rfl, nu, b72⟩
    clear da
    replace ia := ia.below b72
    replace pvx := pvx.below b72
    replace pvy := pvy.below b72
    have B72 : Below W1.heap.size W1 w72 := bstep B71 b72
    go_wp2_with fail
    replace hHeld := KEEP _ B72
    refine hK.out _ _ (AllL.kept hHeld) ?_
    clear hK K
    try simp only [pu1, pu2, pu3, pu4]
    refine late_st 4 rfl (fun K hK => ?_)
    go_simp
    have iu := nu.ib
    refine (whole3 _ _ _ _).mono ?_
    rintro e w73 ⟨rfl, b73⟩
    replace iu := iu.below b73
    clear nu
    replace ia := ia.below b73
    replace pvx := pvx.below b73
    replace pvy := pvy.below b73
    have B73 : Below W1.heap.size W1 w73 := bstep B72 b73
    go_wp2_with fail
    replace hHeld := KEEP _ B73
    refine hK.out _ _ (AllL.kept hHeld) ?_
    clear hK K
    try simp only [pu1, pu2, pu3, pu4]
    refine late_st 5 rfl (fun K hK => ?_)
    go_simp
    have hc := rfloor ia iu (by omega)
    rw [HZ.out.1, HZ.out.2.1, HZ.out.2.2] at hc
    refine hc.mono ?_
    rintro e w74 ⟨mq, mr, rfl, hq, hr, hqr, b74⟩
    obtain ⟨mo, ml, mc, rfl⟩ := hq.sl
    obtain ⟨no, nl, nc, rfl⟩ := hr.sl
    clear hc hr
    have hnx := own_ne3 hq pvx.lt
    have hny := own_ne3 hq pvy.lt
    replace hq := hq.mono (B' := W1.heap.size) B73.size
    clear hqr ia iu
    replace pvx := pvx.below b74
    replace pvy := pvy.below b74
    have B74 : Below W1.heap.size W1 w74 := bstep B73 b74
    go_wp2_with fail
    replace hHeld := KEEP _ B74
    refine hK.out _ _ (AllL.kept hHeld) ?_
    clear hK K
    try simp only [pu1, pu2, pu3, pu4]
    refine late_fr 6 (v := .tuple #[.agg #[.bool (decide (Z < 0)), .slice mo ml mc], .agg #[.bool (decide (R < 0)), .slice no nl nc], .int .i64 E]) rfl (Or.inl ⟨by rfl, ?_⟩) hHeld ?_
    · (intro u _; go_simp)
    try simp only [pu1, pu2, pu3, pu4]
    refine late_fr 7 (v := .agg #[.bool (decide (Z < 0)), .slice mo ml mc]) rfl (Or.inl ⟨by rfl, ?_⟩) hHeld ?_
    · (intro u _; go_simp)
    try simp only [pu1, pu2, pu3, pu4]
    refine late_fr 8 (v := .agg #[.bool (decide (R < 0)), .slice no nl nc]) rfl (Or.inl ⟨by rfl, ?_⟩) hHeld ?_
    · (intro u _; go_simp)
    try simp only [pu1, pu2, pu3, pu4]
    refine late_fr 9 (v := .int .i64 E) rfl (Or.inl ⟨by rfl, ?_⟩) hHeld ?_
    · (intro u _; go_simp)
    try simp only [pu1, pu2, pu3, pu4]
    have Bz := B74
  case' t99 =>
   go_simp
   obtain ⟨w77, vy, hw, hv, pvy, b77, B77⟩ := new_pv B0
   rw [hw, hv]
   clear hw hv
   replace ia := ia.below b77
   replace da := da.below b77
   replace hHeld := KEEP _ B77
   refine hK.out _ _ (AllL.kept hHeld) ?_
   clear hK K
   try simp only [pu1, pu2, pu3, pu4]
   refine late_two 3 10 (by kernel_rfl) rfl rfl (fun K hK => ?t95) (fun K hK => ?t96)
   case' t95 =>
    go_simp
    refine (den3 (na := na) (ao := ao) (al := al) (ac := ac) da ⟨h1L, by omega⟩).mono ?_
    rintro e w78 ⟨uo, ul, uc, rfl, nu, b78⟩
    clear da
    replace ia := ia.below b78
    replace pvy := pvy.below b78
    have B78 : Below W1.heap.size W1 w78 := bstep B77 b78
    go_wp2_with fail
    replace hHeld := KEEP _ B78
    refine hK.out _ _ (AllL.kept hHeld) ?_
    clear hK K
    try simp only [pu1, pu2, pu3, pu4]
    refine late_two 4 10 (by kernel_rfl) rfl rfl (fun K hK => ?t89) (fun K hK => ?t90)
    case' t89 =>
     go_simp
     have iu := nu.ib
     refine (whole3 _ _ _ _).mono ?_
     rintro e w79 ⟨rfl, b79⟩
     replace iu := iu.below b79
     clear nu
     replace ia := ia.below b79
     replace pvy := pvy.below b79
     have B79 : Below W1.heap.size W1 w79 := bstep B78 b79
     go_wp2_with fail
     replace hHeld := KEEP _ B79
     refine hK.out _ _ (AllL.kept hHeld) ?_
     clear hK K
     try simp only [pu1, pu2, pu3, pu4]
     refine late_two 5 10 (by kernel_rfl) rfl rfl (fun K hK => ?t84) (fun K hK => ?t85)
     case' t84 =>
      go_simp
      have hc := rfloor ia iu (by omega)
      rw [HZ.out.1, HZ.out.2.1, HZ.out.2.2] at hc
      refine hc.mono ?_
      rintro e w80 ⟨mq, mr, rfl, hq, hr, hqr, b80⟩
      obtain ⟨mo, ml, mc, rfl⟩ := hq.sl
      obtain ⟨no, nl, nc, rfl⟩ := hr.sl
      clear hc hr
      have hny := own_ne3 hq pvy.lt
      replace hq := hq.mono (B' := W1.heap.size) B79.size
      clear hqr ia iu
      replace pvy := pvy.below b80
      have B80 : Below W1.heap.size W1 w80 := bstep B79 b80
      go_wp2_with fail
      replace hHeld := KEEP _ B80
      refine hK.out _ _ (AllL.kept hHeld) ?_
      clear hK K
      try simp only [pu1, pu2, pu3, pu4]
      refine late_fr 6 (v := .tuple #[.agg #[.bool (decide (Z < 0)), .slice mo ml mc], .agg #[.bool (decide (R < 0)), .slice no nl nc], .int .i64 E]) rfl (Or.inl ⟨by rfl, ?_⟩) hHeld ?_
      · (intro u _; go_simp)
      try simp only [pu1, pu2, pu3, pu4]
      refine late_fr 7 (v := .agg #[.bool (decide (Z < 0)), .slice mo ml mc]) rfl (Or.inl ⟨by rfl, ?_⟩) hHeld ?_
      · (intro u _; go_simp)
      try simp only [pu1, pu2, pu3, pu4]
      refine late_fr 8 (v := .agg #[.bool (decide (R < 0)), .slice no nl nc]) rfl (Or.inl ⟨by rfl, ?_⟩) hHeld ?_
      · (intro u _; go_simp)
      try simp only [pu1, pu2, pu3, pu4]
      refine late_fr 9 (v := .int .i64 E) rfl (Or.inl ⟨by rfl, ?_⟩) hHeld ?_
      · (intro u _; go_simp)
      try simp only [pu1, pu2, pu3, pu4]
      refine late_st 10 rfl (fun K hK => ?_)
      go_simp
      obtain ⟨w81, vx, hw, hv, pvx, b81, B81⟩ := new_pv B80
      rw [hw, hv]
      have hnx := own_ne_top hq
      rw [hv] at hnx
      have hxy : vx ≠ vy := by have := pvy.lt; omega
      clear hw hv
      replace hq := hq.below b81
      replace pvy := pvy.below b81
      replace hHeld := KEEP _ B81
      refine hK.out _ _ (AllL.kept hHeld) ?_
      clear hK K
      try simp only [pu1, pu2, pu3, pu4]
      have Bz := B81
     case' t85 =>
      go_simp
      obtain ⟨w82, vx, hw, hv, pvx, b82, B82⟩ := new_pv B79
      rw [hw, hv]
      have hxy : vx ≠ vy := by have := pvy.lt; omega
      clear hw hv
      replace ia := ia.below b82
      replace iu := iu.below b82
      replace pvy := pvy.below b82
      replace hHeld := KEEP _ B82
      refine hK.out _ _ (AllL.kept hHeld) ?_
      clear hK K
      try simp only [pu1, pu2, pu3, pu4]
      refine late_st 5 rfl (fun K hK => ?_)
      go_simp
      have hc := rfloor ia iu (by omega)
      rw [HZ.out.1, HZ.out.2.1, HZ.out.2.2] at hc
      refine hc.mono ?_
      rintro e w83 ⟨mq, mr, rfl, hq, hr, hqr, b83⟩
      obtain ⟨mo, ml, mc, rfl⟩ := hq.sl
      obtain ⟨no, nl, nc, rfl⟩ := hr.sl
      clear hc hr
      have hny := own_ne3 hq pvy.lt
      have hnx := own_ne3 hq pvx.lt
      replace hq := hq.mono (B' := W1.heap.size) B82.size
      clear hqr ia iu
      replace pvy := pvy.below b83
      replace pvx := pvx.below b83
      have B83 : Below W1.heap.size W1 w83 := bstep B82 b83
      go_wp2_with fail
      replace hHeld := KEEP _ B83
      refine hK.out _ _ (AllL.kept hHeld) ?_
      clear hK K
      try simp only [pu1, pu2, pu3, pu4]
      refine late_fr 6 (v := .tuple #[.agg #[.bool (decide (Z < 0)), .slice mo ml mc], .agg #[.bool (decide (R < 0)), .slice no nl nc], .int .i64 E]) rfl (Or.inl ⟨by rfl, ?_⟩) hHeld ?_
      · (intro u _; go_simp)
      try simp only [pu1, pu2, pu3, pu4]
      refine late_fr 7 (v := .agg #[.bool (decide (Z < 0)), .slice mo ml mc]) rfl (Or.inl ⟨by rfl, ?_⟩) hHeld ?_
      · (intro u _; go_simp)
      try simp only [pu1, pu2, pu3, pu4]
      refine late_fr 8 (v := .agg #[.bool (decide (R < 0)), .slice no nl nc]) rfl (Or.inl ⟨by rfl, ?_⟩) hHeld ?_
      · (intro u _; go_simp)
      try simp only [pu1, pu2, pu3, pu4]
      refine late_fr 9 (v := .int .i64 E) rfl (Or.inl ⟨by rfl, ?_⟩) hHeld ?_
      · (intro u _; go_simp)
      try simp only [pu1, pu2, pu3, pu4]
      have Bz := B83
    case' t90 =>
     go_simp
     obtain ⟨w86, vx, hw, hv, pvx, b86, B86⟩ := new_pv B78
     rw [hw, hv]
     have hxy : vx ≠ vy := by have := pvy.lt; omega
     clear hw hv
     replace ia := ia.below b86
     replace nu := nu.below b86
     replace pvy := pvy.below b86
     replace hHeld := KEEP _ B86
     refine hK.out _ _ (AllL.kept hHeld) ?_
     clear hK K
     try simp only [pu1, pu2, pu3, pu4]
     refine late_st 4 rfl (fun K hK => ?_)
     go_simp
     have iu := nu.ib
     refine (whole3 _ _ _ _).mono ?_
     rintro e w87 ⟨rfl, b87⟩
     replace iu := iu.below b87
     clear nu
     replace ia := ia.below b87
     replace pvy := pvy.below b87
     replace pvx := pvx.below b87
     have B87 : Below W1.heap.size W1 w87 := bstep B86 b87
     go_wp2_with fail
     replace hHeld := KEEP _ B87
     refine hK.out _ _ (AllL.kept hHeld) ?_
     clear hK K
     try simp only [pu1, pu2, pu3, pu4]
     refine late_st 5 rfl (fun K hK => ?_)
     go_simp
     have hc := rfloor ia iu (by omega)
     rw [HZ.out.1, HZ.out.2.1, HZ.out.2.2] at hc
     refine hc.mono ?_
     rintro e w88 ⟨mq, mr, rfl, hq, hr, hqr, b88⟩
     obtain ⟨mo, ml, mc, rfl⟩ := hq.sl
     obtain ⟨no, nl, nc, rfl⟩ := hr.sl
     clear hc hr
     have hny := own_ne3 hq pvy.lt
     have hnx := own_ne3 hq pvx.lt
     replace hq := hq.mono (B' := W1.heap.size) B87.size
     clear hqr ia iu
     replace pvy := pvy.below b88
     replace pvx := pvx.below b88
     have B88 : Below W1.heap.size W1 w88 := bstep B87 b88
     go_wp2_with fail
     replace hHeld := KEEP _ B88
     refine hK.out _ _ (AllL.kept hHeld) ?_
     clear hK K
     try simp only [pu1, pu2, pu3, pu4]
     refine late_fr 6 (v := .tuple #[.agg #[.bool (decide (Z < 0)), .slice mo ml mc], .agg #[.bool (decide (R < 0)), .slice no nl nc], .int .i64 E]) rfl (Or.inl ⟨by rfl, ?_⟩) hHeld ?_
     · (intro u _; go_simp)
     try simp only [pu1, pu2, pu3, pu4]
     refine late_fr 7 (v := .agg #[.bool (decide (Z < 0)), .slice mo ml mc]) rfl (Or.inl ⟨by rfl, ?_⟩) hHeld ?_
     · (intro u _; go_simp)
     try simp only [pu1, pu2, pu3, pu4]
     refine late_fr 8 (v := .agg #[.bool (decide (R < 0)), .slice no nl nc]) rfl (Or.inl ⟨by rfl, ?_⟩) hHeld ?_
     · (intro u _; go_simp)
     try simp only [pu1, pu2, pu3, pu4]
     refine late_fr 9 (v := .int .i64 E) rfl (Or.inl ⟨by rfl, ?_⟩) hHeld ?_
     · (intro u _; go_simp)
     try simp only [pu1, pu2, pu3, pu4]
     have Bz := B88
   case' t96 =>
    go_simp
    obtain ⟨w91, vx, hw, hv, pvx, b91, B91⟩ := new_pv B77
    rw [hw, hv]
    have hxy : vx ≠ vy := by have := pvy.lt; omega
    clear hw hv
    replace ia := ia.below b91
    replace da := da.below b91
    replace pvy := pvy.below b91
    replace hHeld := KEEP _ B91
    refine hK.out _ _ (AllL.kept hHeld) ?_
    clear hK K
    try simp only [pu1, pu2, pu3, pu4]
    refine late_st 3 rfl (fun K hK => ?_)
    go_simp
    refine (den3 (na := na) (ao := ao) (al := al) (ac := ac) da ⟨h1L, by omega⟩).mono ?_
    rintro e w92 ⟨uo, ul, uc, rfl, nu, b92⟩
    clear da
    replace ia := ia.below b92
    replace pvy := pvy.below b92
    replace pvx := pvx.below b92
    have B92 : Below W1.heap.size W1 w92 := bstep B91 b92
    go_wp2_with fail
    replace hHeld := KEEP _ B92
    refine hK.out _ _ (AllL.kept hHeld) ?_
    clear hK K
    try simp only [pu1, pu2, pu3, pu4]
    refine late_st 4 rfl (fun K hK => ?_)
    go_simp
    have iu := nu.ib
    refine (whole3 _ _ _ _).mono ?_
    rintro e w93 ⟨rfl, b93⟩
    replace iu := iu.below b93
    clear nu
    replace ia := ia.below b93
    replace pvy := pvy.below b93
    replace pvx := pvx.below b93
    have B93 : Below W1.heap.size W1 w93 := bstep B92 b93
    go_wp2_with fail
    replace hHeld := KEEP _ B93
    refine hK.out _ _ (AllL.kept hHeld) ?_
    clear hK K
    try simp only [pu1, pu2, pu3, pu4]
    refine late_st 5 rfl (fun K hK => ?_)
    go_simp
    have hc := rfloor ia iu (by omega)
    rw [HZ.out.1, HZ.out.2.1, HZ.out.2.2] at hc
    refine hc.mono ?_
    rintro e w94 ⟨mq, mr, rfl, hq, hr, hqr, b94⟩
    obtain ⟨mo, ml, mc, rfl⟩ := hq.sl
    obtain ⟨no, nl, nc, rfl⟩ := hr.sl
    clear hc hr
    have hny := own_ne3 hq pvy.lt
    have hnx := own_ne3 hq pvx.lt
    replace hq := hq.mono (B' := W1.heap.size) B93.size
    clear hqr ia iu
    replace pvy := pvy.below b94
    replace pvx := pvx.below b94
    have B94 : Below W1.heap.size W1 w94 := bstep B93 b94
    go_wp2_with fail
    replace hHeld := KEEP _ B94
    refine hK.out _ _ (AllL.kept hHeld) ?_
    clear hK K
    try simp only [pu1, pu2, pu3, pu4]
    refine late_fr 6 (v := .tuple #[.agg #[.bool (decide (Z < 0)), .slice mo ml mc], .agg #[.bool (decide (R < 0)), .slice no nl nc], .int .i64 E]) rfl (Or.inl ⟨by rfl, ?_⟩) hHeld ?_
    · (intro u _; go_simp)
    try simp only [pu1, pu2, pu3, pu4]
    refine late_fr 7 (v := .agg #[.bool (decide (Z < 0)), .slice mo ml mc]) rfl (Or.inl ⟨by rfl, ?_⟩) hHeld ?_
    · (intro u _; go_simp)
    try simp only [pu1, pu2, pu3, pu4]
    refine late_fr 8 (v := .agg #[.bool (decide (R < 0)), .slice no nl nc]) rfl (Or.inl ⟨by rfl, ?_⟩) hHeld ?_
    · (intro u _; go_simp)
    try simp only [pu1, pu2, pu3, pu4]
    refine late_fr 9 (v := .int .i64 E) rfl (Or.inl ⟨by rfl, ?_⟩) hHeld ?_
    · (intro u _; go_simp)
    try simp only [pu1, pu2, pu3, pu4]
    have Bz := B94
  all_goals
    have hyx : ¬ vy = vx := fun e => hxy e.symm
    have HIB : Hid (FlE W1 _ vx (decide (Z < 0)) (.slice mo ml mc) (lim Z.natAbs)) := fl_end (b2 := decide (R < 0)) (m2 := .slice no nl nc) pvx pvy hxy hq hnx hny Bz
    obtain ⟨y0, y1⟩ := pvx.c.cells
    have f0 := pvx.c.thaw 0
    have f1 := pvx.c.thaw 1
    obtain ⟨y2, y3⟩ := pvy.c.cells
    have f2 := pvy.c.thaw 0
    have f3 := pvy.c.thaw 1
    clear hq hnx hny pvx pvy
    generalize decide (Z < 0) = bZ at *
    generalize decide (R < 0) = bR at *
    refine late_st 12 rfl (fun K hK => ?_)
    go_simp
    refine hK.out _ _ ⟨kpt 5, kpt 3, trivial⟩ ?_
    clear hK K
    try simp only [pu1, pu2, pu3, pu4]
    refine late_st 13 rfl (fun K hK => ?_)
    go_simp
    refine hK.out _ _ ⟨kpt 5, kpt 3, trivial⟩ ?_
    clear hK K
    try simp only [pu1, pu2, pu3, pu4]
    refine late_st 14 rfl (fun K hK => ?_)
    go_simp
    refine hK.out _ _ ⟨kpt 5, kpt 3, trivial⟩ ?_
    clear hK K
    try simp only [pu1, pu2, pu3, pu4]
    refine late_done (by kernel_rfl) ?_ _
    clear hHeld y0 y1 y2 y3 f0 f1 f2 f3 hxy hyx
    go_wp2_with fail
    go_meet
    exact ⟨_, _, _, _, _, rfl, HIB.out.1, ⟨rfl, HIB.out.2.1⟩, HIB.out.2.2⟩
 case rest =>
  obtain ⟨vx, nx, xo, xl, xc, rfl, px, ⟨rfl, hx⟩, b⟩ := hcut
  have qr := qR.below b
  obtain ⟨c0, c1⟩ := px.cells
  obtain ⟨y0, y1⟩ := qr.cells
  have f0 := qr.thaw 0
  have f1 := qr.thaw 1
  have HE : Hid (IEnd w Z (.returned (.agg #[.bool (decide (Z < 0)), .slice xo xl xc])) ((wc.setCell ⟨g + 1, 0, none⟩ (.bool (decide (Z < 0)))).setCell ⟨g + 1, 1, none⟩ (.slice xo xl xc))) := (int_done rfl (by rw [HG.out]; omega) hx hsz (bstep hb b)).i
  have HW : Hid (ICell ((wc.setCell ⟨g + 1, 0, none⟩ (.bool (decide (Z < 0)))).setCell ⟨g + 1, 1, none⟩ (.slice xo xl xc)) (g + 1) (decide (Z < 0)) (.slice xo xl xc)) := qr.write _ _
  generalize decide (Z < 0) = bb at *
  clear hx px qr qR qa ia da hraw hb hsz b
  go_wp2_with fail
  (try simp only [Exit.inBlock, Exit.then])
  exact bodyPost_ret (results_cell_row rfl _ _ (g + 1) 25 _ (0, 0) _ rfl HW.out Tryz.underlying25 rfl (by kernel_rfl)) rfl HE.out
open Go.RowKit

open Go.RowKit

open Go.RowKit

def RV (w : World) (v : Value) (p : Int) (q : Nat) : Prop := ∃ n ao al ac bo bl bc, v = .agg #[.bool n, .slice ao al ac, .slice bo bl bc] ∧ IB w (.agg #[.bool n, .slice ao al ac]) p 40 ∧ NB w (.slice bo bl bc) (q : Int) 40
theorem RV.below {w w' : World} {v : Value} {p : Int} {q : Nat} (h : RV w v p q) (hb : Below w.heap.size w w') : RV w' v p q := by
 obtain ⟨n, ao, al, ac, bo, bl, bc, e, h1, h2⟩ := h
 exact ⟨n, ao, al, ac, bo, bl, bc, e, h1.below hb, h2.below hb⟩
theorem RV.of {w : World} {n : Bool} {ao bo : Option Addr} {al ac bl bc : Nat} {xs ys : List Nat} (h1 : Num w (.slice ao al ac) xs) (h2 : Num w (.slice bo bl bc) ys) (l1 : xs.length ≤ 40) (l2 : ys.length ≤ 40) : RV w (.agg #[.bool n, .slice ao al ac, .slice bo bl bc]) (zv n (val xs)) (val ys) :=
 ⟨n, ao, al, ac, bo, bl, bc, rfl, ⟨_, _, _, _, _, rfl, h1, l1, rfl⟩, ⟨_, _, _, _, rfl, h2, l2, rfl⟩⟩
theorem RV.rn {w : World} {v : Value} {p : Int} {q : Nat} (h : RV w v p q) : RNum w v (rq p q) 40 := by
 obtain ⟨n, ao, al, ac, bo, bl, bc, rfl, h1, h2⟩ := h
 exact rnum_of h1 h2 (by decide) (by decide)
theorem RV.sz {w : World} {v : Value} {p : Int} {q : Nat} (h : RV w v p q) : Sz p 40 ∧ Sz (und q) 40 := by
 obtain ⟨n, ao, al, ac, bo, bl, bc, rfl, h1, h2⟩ := h
 exact ⟨h1.sz, und_sz h2.sz (by decide)⟩
theorem aCmpF {w : World} {v u : Value} {p r : Int} {q k : Nat} (h : RV w v p q) (h' : RV w u r k) : Calls Tryz.prog 21 #[v, u] w fun e w' => e = .returned (.int .i64 (cmpQ (rq p q) (rq r k))) ∧ Below w.heap.size w w' := by
 exact c_rcmp h.rn h'.rn (by decide)
theorem aCmpR {w : World} {v u : Value} {p r : Int} {q k : Nat} (h : RV w v p q) (h' : RV w u r k) : Calls Tryz.prog 41 #[v, u] w fun e w' => e = .returned (.int .i64 (cmpQ (rq p q) (rq r k))) ∧ Below w.heap.size w w' := by
 obtain ⟨n, ao, al, ac, bo, bl, bc, rfl, h1, h2⟩ := h
 obtain ⟨n', ao', al', ac', bo', bl', bc', rfl, h1', h2'⟩ := h'
 exact cmp3 n ao bo al ac bl bc n' ao' bo' al' ac' bl' bc' h1 h2 (by decide) h1' h2' (by decide) (by decide)
theorem aSignF {w : World} {v : Value} {p : Int} {q : Nat} (h : RV w v p q) : Calls Tryz.prog 38 #[v] w fun e w' => e = .returned (.int .i64 (sgnQ (rq p q))) ∧ Below w.heap.size w w' := by
 exact c_rsign h.rn
theorem aSignR {w : World} {v : Value} {p : Int} {q : Nat} (h : RV w v p q) : Calls Tryz.prog 27 #[v] w fun e w' => e = .returned (.int .i64 (sgnQ (rq p q))) ∧ Below w.heap.size w w' := by
 obtain ⟨n, ao, al, ac, bo, bl, bc, rfl, h1, h2⟩ := h
 exact sign3 n ao bo al ac bl bc h1 (by decide)
open Go.RowKit

theorem btw_raw {p r : Int} {q k : Nat} (hu : UpTo (rq p q) (rq r k)) : ∃ P Q R S : Nat, (p = P ∧ und q = Q ∧ r = R ∧ und k = S) ∧ (0 < P ∧ 0 < Q ∧ 0 < S ∧ P * S ≤ R * Q) ∧
  ((sQ (rq p q) (rq r k)).num = ((btw (Q + S) P Q R S).1 : Int) ∧ ((sQ (rq p q) (rq r k)).den : Int) = ((btw (Q + S) P Q R S).2 : Int)) ∧ (btw (Q + S) P Q R S).1 ≤ P ∧ (btw (Q + S) P Q R S).2 ≤ Q := by
 obtain ⟨i, hi, a1, a2⟩ := rq_parts p q
 obtain ⟨j, hj, b1, b2⟩ := rq_parts r k
 have hs := hu.simp
 obtain ⟨n1, n2, n3⟩ := hu.nat
 obtain ⟨pn, pd⟩ := hu.parts
 have u1 := hu.pos
 have u2 := hu.pos2
 generalize rq p q = a at *
 generalize rq r k = b at *
 obtain ⟨ni, rfl⟩ : ∃ n : Nat, i = n := ⟨i.natAbs, by omega⟩
 obtain ⟨nj, rfl⟩ : ∃ n : Nat, j = n := ⟨j.natAbs, by omega⟩
 have hni : 0 < ni := by omega
 have hnj : 0 < nj := by omega
 have ea : ((a.num.natAbs : Nat) : Int) = a.num := by omega
 have eb : ((b.num.natAbs : Nat) : Int) = b.num := by omega
 refine ⟨a.num.natAbs * ni, a.den * ni, b.num.natAbs * nj, b.den * nj, ⟨by rw [Int.natCast_mul, ea]; exact a1, by rw [Int.natCast_mul]; exact a2, by rw [Int.natCast_mul, eb]; exact b1, by rw [Int.natCast_mul]; exact b2⟩, ?_, ?_⟩
 ·
  refine ⟨Nat.mul_pos n1 hni, Nat.mul_pos a.den_pos hni, Nat.mul_pos b.den_pos hnj, ?_⟩
  have e1 : a.num.natAbs * ni * (b.den * nj) = a.num.natAbs * b.den * (ni * nj) := by rw [Nat.mul_mul_mul_comm]
  have e2 : b.num.natAbs * nj * (a.den * ni) = b.num.natAbs * a.den * (ni * nj) := by rw [Nat.mul_mul_mul_comm, Nat.mul_comm nj ni]
  rw [e1, e2]
  exact Nat.mul_le_mul_right _ n3
 ·
  have hle : a.num.natAbs * ni * (b.den * nj) ≤ b.num.natAbs * nj * (a.den * ni) := by
   have e1 : a.num.natAbs * ni * (b.den * nj) = a.num.natAbs * b.den * (ni * nj) := by rw [Nat.mul_mul_mul_comm]
   have e2 : b.num.natAbs * nj * (a.den * ni) = b.num.natAbs * a.den * (ni * nj) := by rw [Nat.mul_mul_mul_comm, Nat.mul_comm nj ni]
   rw [e1, e2]
   exact Nat.mul_le_mul_right _ n3
  have s1 := btw_simp (a.den * ni + b.den * nj) (a.num.natAbs * ni) (a.den * ni) (b.num.natAbs * nj) (b.den * nj) (Nat.mul_pos n1 hni) (Nat.mul_pos a.den_pos hni) (Nat.mul_pos b.den_pos hnj) hle (Nat.le_refl _)
  have s2 := s1.same (P := a.num.natAbs) (Q := a.den) (R := b.num.natAbs) (S := b.den) (Nat.mul_pos a.den_pos hni) a.den_pos (Nat.mul_pos b.den_pos hnj) b.den_pos (by rw [Nat.mul_right_comm, Nat.mul_assoc]) (by rw [Nat.mul_right_comm, Nat.mul_assoc])
  obtain ⟨x1, x2⟩ := s2.unique hs
  have l := (s1.le (Nat.mul_pos a.den_pos hni) (Nat.mul_pos b.den_pos hnj) hle).1
  refine ⟨⟨by rw [x1]; exact pn, by rw [x2, pd]⟩, l.1, l.2⟩
theorem between_q {w : World} {va vb : Value} {p r : Int} {q k : Nat} (h : RV w va p q) (h' : RV w vb r k) (hu : UpTo (rq p q) (rq r k)) : Calls Tryz.prog 39 #[va, vb] w fun e w' => REnd w (sQ (rq p q) (rq r k)) e w' := by
 obtain ⟨n, ao, al, ac, bo, bl, bc, rfl, h1, h2⟩ := h
 obtain ⟨n', ao', al', ac', bo', bl', bc', rfl, h1', h2'⟩ := h'
 obtain ⟨P, Q, R, S, e, hn, hs, l1, l2⟩ := btw_raw hu
 have i1 := h1.num (by decide)
 have r1 := NB.raw h1 h2 (by decide)
 have i2 := h1'.num (by decide)
 have r2 := NB.raw h1' h2' (by decide)
 have sp : Sz (P : Int) 1000000 := by have := i1.sz; rwa [e.1] at this
 have sq : Sz (Q : Int) 1000000 := by rw [← e.2.1]; exact (und_sz h2.sz (by decide)).mono (by decide)
 refine (c_between n ao bo al ac bl bc n' ao' bo' al' ac' bl' bc' P Q R S _ _ e hn ⟨rfl, rfl⟩ ⟨sz_nat l1 sp, sz_nat l2 sq⟩ i1 i2 r1 r2).mono fun _ _ h => h.rend hs.1 hs.2
open Go.RowKit
attribute [local go_sem ↓] Go.wp_at_zero Go.wp_at_succ

def spQ (a b : Rat) : Rat := if 0 < a.num then sQ a b else if b.num < 0 then -sQ (-b) (-a) else 0
theorem cmpQ_le {a b : Rat} (h : ¬ 0 < cmpQ a b) : a.num * b.den ≤ b.num * a.den := by
 unfold cmpQ cmpZ at h
 split at h
 · omega
 ·
  split at h
  · omega
  · exact absurd (by decide) h
theorem UpTo.neg {a b : Rat} (h : a.num * b.den ≤ b.num * a.den) (hb : b.num < 0) : UpTo (-b) (-a) := by
 refine ⟨by rw [Rat.neg_num]; omega, ?_⟩
 rw [Rat.neg_num, Rat.neg_num, Rat.neg_den, Rat.neg_den, Int.neg_mul, Int.neg_mul]
 omega
theorem UpTo.sz {a b : Rat} {L : Nat} (h : UpTo a b) (ha : RSz a L) : RSz (sQ a b) L := by
 obtain ⟨p1, p2⟩ := h.parts
 have l := (h.simp.le a.den_pos b.den_pos h.nat.2.2).1
 exact ⟨ha.num.le (by rw [p1, Int.natAbs_natCast]; exact l.1), ha.den.le (by rw [p2, Int.natAbs_natCast, Int.natAbs_natCast]; exact l.2)⟩
def RNo3 (w : World) (e : Ending) (w' : World) : Prop := e = .returned (.tuple #[.agg #[.bool false, .slice none 0 0, .slice none 0 0], .int .i64 3]) ∧ Below w.heap.size w w'
theorem ROwn.rv {B : Nat} {w : World} {v : Value} {a : Rat} (h : ROwn B w v a) (hs : RSz a 40) : RV w v a.num a.den := by
 obtain ⟨n, ao, al, ac, bo, bl, bc, rfl, h1, h2⟩ := h.seeB hs
 exact ⟨n, ao, al, ac, bo, bl, bc, rfl, h1, h2⟩
theorem simplest_no (na : Bool) (ao aO : Option Addr) (al ac aL aC : Nat) (nb : Bool) (bo bO : Option Addr) (bl bc bL bC : Nat) {p r : Int} {q k : Nat} {w : World} (hA : RV w (.agg #[.bool na, .slice ao al ac, .slice aO aL aC]) p q) (hB : RV w (.agg #[.bool nb, .slice bo bl bc, .slice bO bL bC]) r k) (hc : 0 < cmpQ (rq p q) (rq r k)) : Calls Tryz.prog 12 #[.agg #[.bool na, .slice ao al ac, .slice aO aL aC], .agg #[.bool nb, .slice bo bl bc, .slice bO bL bC]] w fun e w' => RNo3 w e w' := by
 have HC : Hid (0 < cmpQ (rq p q) (rq r k)) := hc
 clear hc
 obtain ⟨W1, hW1⟩ : ∃ W1, W1 = ((w.alloc (.cells #[.bool na, .slice ao al ac, .slice aO aL aC] 27)).alloc (.cells #[.bool nb, .slice bo bl bc, .slice bO bL bC] 27)).alloc (.cells #[.bool false, .slice none 0 0, .slice none 0 0] 27) := ⟨_, rfl⟩
 have qa : QCell W1 (w.heap.size) na (.slice ao al ac) (.slice aO aL aC) := by rw [hW1]; exact (qcell_step (qcell_step (qcell_new _ (by simp))))
 have qb : QCell W1 (w.heap.size + 1) nb (.slice bo bl bc) (.slice bO bL bC) := by rw [hW1]; exact (qcell_step (qcell_new _ (by simp)))
 have qR : QCell W1 (w.heap.size + 1 + 1) false (.slice none 0 0) (.slice none 0 0) := by rw [hW1]; exact (qcell_new _ (by simp))
 have hb : Below w.heap.size w W1 := by rw [hW1]; exact bstep (bstep (belowA w _) (belowA _ _)) (belowA _ _)
 have hsz : w.heap.size + 1 + 1 < W1.heap.size := by rw [hW1]; simp
 replace hA := hA.below hb
 replace hB := hB.below hb
 have HW1 : Hid (W1 = ((w.alloc (.cells #[.bool na, .slice ao al ac, .slice aO aL aC] 27)).alloc (.cells #[.bool nb, .slice bo bl bc, .slice bO bL bC] 27)).alloc (.cells #[.bool false, .slice none 0 0, .slice none 0 0] 27)) := hW1
 clear hW1
 go_enter Tryz.func12, Tryz.ntmps12
 go_wp2_with fail
 rw [← HW1.out]
 clear HW1
 obtain ⟨g, hg⟩ : ∃ g, g = w.heap.size := ⟨_, rfl⟩
 rw [← hg] at qa qb qR hsz ⊢
 have HG : Hid (g = w.heap.size) := hg
 clear hg
 obtain ⟨cqa0, cqa1, cqa2⟩ := qa.cells
 obtain ⟨cqb0, cqb1, cqb2⟩ := qb.cells
 obtain ⟨cqR0, cqR1, cqR2⟩ := qR.cells
 go_wp2_with fail
 clear cqa0 cqa1 cqa2 cqb0 cqb1 cqb2 cqR0 cqR1 cqR2
 have hq := aCmpF hA hB
 obtain ⟨c, hc⟩ : ∃ c, c = cmpQ (rq p q) (rq r k) := ⟨_, rfl⟩
 have hc0 : 0 < c := by rw [hc]; have := HC.out; omega
 rw [← hc] at hq
 clear hc HC
 refine (hq).mono ?_
 rintro e w2 ⟨rfl, b⟩
 clear hq
 replace hA := hA.below b
 replace hB := hB.below b
 replace qa := qa.below b
 replace qb := qb.below b
 replace qR := qR.below b
 replace hb := bstep hb b
 replace hsz := Nat.lt_of_lt_of_le hsz b.size
 clear b
 have HE : Hid (Below w.heap.size w (((w2.setCell ⟨g + 1 + 1, 0, none⟩ (.bool false)).setCell ⟨g + 1 + 1, 1, none⟩ (.slice none 0 0)).setCell ⟨g + 1 + 1, 2, none⟩ (.slice none 0 0))) := iend3 hb (by rw [HG.out]; omega)
 have HW : Hid (QCell (((w2.setCell ⟨g + 1 + 1, 0, none⟩ (.bool false)).setCell ⟨g + 1 + 1, 1, none⟩ (.slice none 0 0)).setCell ⟨g + 1 + 1, 2, none⟩ (.slice none 0 0)) (g + 1 + 1) false (.slice none 0 0) (.slice none 0 0)) := qR.write _ _ _
 obtain ⟨y0, y1, y2⟩ := qR.cells
 have f0 := qR.thaw 0
 have f1 := qR.thaw 1
 have f2 := qR.thaw 2
 obtain ⟨ca0, ca1, ca2⟩ := qa.cells
 obtain ⟨cb0, cb1, cb2⟩ := qb.cells
 clear hb hsz hA hB qa qb qR
 go_wp2_with fail
 (try simp only [Exit.inBlock, Exit.then])
 exact bodyPost_ret (results_ct (p := 4) (u := 5) rfl _ _ (g + 1 + 1) 27 _ (0, 0) _ rfl HW.out Tryz.underlying27 rfl (by kernel_rfl)) rfl ⟨rfl, HE.out⟩
theorem simplest_pos (na : Bool) (ao aO : Option Addr) (al ac aL aC : Nat) (nb : Bool) (bo bO : Option Addr) (bl bc bL bC : Nat) {p r : Int} {q k : Nat} {w : World} (hA : RV w (.agg #[.bool na, .slice ao al ac, .slice aO aL aC]) p q) (hB : RV w (.agg #[.bool nb, .slice bo bl bc, .slice bO bL bC]) r k) (hc : ¬ 0 < cmpQ (rq p q) (rq r k)) (hs1 : 0 < sgnQ (rq p q)) (hp0 : 0 < (rq p q).num) : Calls Tryz.prog 12 #[.agg #[.bool na, .slice ao al ac, .slice aO aL aC], .agg #[.bool nb, .slice bo bl bc, .slice bO bL bC]] w fun e w' => RTEnd w (sQ (rq p q) (rq r k)) e w' := by
 have HC : Hid (¬ 0 < cmpQ (rq p q) (rq r k)) := hc
 clear hc
 have Hsa : Hid (0 < sgnQ (rq p q)) := hs1
 have HU : Hid (UpTo (rq p q) (rq r k)) := ⟨hp0, cmpQ_le HC.out⟩
 obtain ⟨Z, hZ⟩ : ∃ Z, Z = sQ (rq p q) (rq r k) := ⟨_, rfl⟩
 rw [← hZ]
 have HZ : Hid (Z = sQ (rq p q) (rq r k)) := hZ
 clear hs1 hp0 hZ
 obtain ⟨W1, hW1⟩ : ∃ W1, W1 = ((w.alloc (.cells #[.bool na, .slice ao al ac, .slice aO aL aC] 27)).alloc (.cells #[.bool nb, .slice bo bl bc, .slice bO bL bC] 27)).alloc (.cells #[.bool false, .slice none 0 0, .slice none 0 0] 27) := ⟨_, rfl⟩
 have qa : QCell W1 (w.heap.size) na (.slice ao al ac) (.slice aO aL aC) := by rw [hW1]; exact (qcell_step (qcell_step (qcell_new _ (by simp))))
 have qb : QCell W1 (w.heap.size + 1) nb (.slice bo bl bc) (.slice bO bL bC) := by rw [hW1]; exact (qcell_step (qcell_new _ (by simp)))
 have qR : QCell W1 (w.heap.size + 1 + 1) false (.slice none 0 0) (.slice none 0 0) := by rw [hW1]; exact (qcell_new _ (by simp))
 have hb : Below w.heap.size w W1 := by rw [hW1]; exact bstep (bstep (belowA w _) (belowA _ _)) (belowA _ _)
 have hsz : w.heap.size + 1 + 1 < W1.heap.size := by rw [hW1]; simp
 replace hA := hA.below hb
 replace hB := hB.below hb
 have HW1 : Hid (W1 = ((w.alloc (.cells #[.bool na, .slice ao al ac, .slice aO aL aC] 27)).alloc (.cells #[.bool nb, .slice bo bl bc, .slice bO bL bC] 27)).alloc (.cells #[.bool false, .slice none 0 0, .slice none 0 0] 27)) := hW1
 clear hW1
 go_enter Tryz.func12, Tryz.ntmps12
 go_wp2_with fail
 rw [← HW1.out]
 clear HW1
 obtain ⟨g, hg⟩ : ∃ g, g = w.heap.size := ⟨_, rfl⟩
 rw [← hg] at qa qb qR hsz ⊢
 have HG : Hid (g = w.heap.size) := hg
 clear hg
 obtain ⟨cqa0, cqa1, cqa2⟩ := qa.cells
 obtain ⟨cqb0, cqb1, cqb2⟩ := qb.cells
 obtain ⟨cqR0, cqR1, cqR2⟩ := qR.cells
 go_wp2_with fail
 clear cqa0 cqa1 cqa2 cqb0 cqb1 cqb2 cqR0 cqR1 cqR2
 have hq := aCmpF hA hB
 obtain ⟨c, hc⟩ : ∃ c, c = cmpQ (rq p q) (rq r k) := ⟨_, rfl⟩
 have hc0 : ¬ 0 < c := by rw [hc]; have := HC.out; omega
 rw [← hc] at hq
 clear hc
 refine (hq).mono ?_
 rintro e w2 ⟨rfl, b⟩
 clear hq
 replace hA := hA.below b
 replace hB := hB.below b
 replace qa := qa.below b
 replace qb := qb.below b
 replace qR := qR.below b
 replace hb := bstep hb b
 replace hsz := Nat.lt_of_lt_of_le hsz b.size
 clear b
 obtain ⟨cqa0, cqa1, cqa2⟩ := qa.cells
 obtain ⟨cqb0, cqb1, cqb2⟩ := qb.cells
 obtain ⟨cqR0, cqR1, cqR2⟩ := qR.cells
 go_wp2_with fail
 clear cqa0 cqa1 cqa2 cqb0 cqb1 cqb2 cqR0 cqR1 cqR2
 have hq := aSignF hA
 obtain ⟨sa, hs⟩ : ∃ s, s = sgnQ (rq p q) := ⟨_, rfl⟩
 have hsa : 0 < sa := by rw [hs]; have := Hsa.out; omega
 rw [← hs] at hq
 clear hs
 refine (hq).mono ?_
 rintro e w3 ⟨rfl, b⟩
 clear hq
 replace hA := hA.below b
 replace hB := hB.below b
 replace qa := qa.below b
 replace qb := qb.below b
 replace qR := qR.below b
 replace hb := bstep hb b
 replace hsz := Nat.lt_of_lt_of_le hsz b.size
 clear b
 obtain ⟨cqa0, cqa1, cqa2⟩ := qa.cells
 obtain ⟨cqb0, cqb1, cqb2⟩ := qb.cells
 obtain ⟨cqR0, cqR1, cqR2⟩ := qR.cells
 go_wp2_with fail
 clear cqa0 cqa1 cqa2 cqb0 cqb1 cqb2 cqR0 cqR1 cqR2
 have hq := between_q hA hB HU.out
 rw [← HZ.out] at hq
 have hszz := hsz
 refine (hq).mono ?_
 rintro e w4 ⟨v, rfl, hv, b⟩
 clear hq
 obtain ⟨m, d, rfl, hm, hd, hap⟩ := hv
 obtain ⟨mo, ml, mc, rfl⟩ := hm.sl
 obtain ⟨mO, mL, mC, rfl⟩ := hd.sl
 replace hA := hA.below b
 replace hB := hB.below b
 replace qa := qa.below b
 replace qb := qb.below b
 replace qR := qR.below b
 replace hb := bstep hb b
 replace hsz := Nat.lt_of_lt_of_le hsz b.size
 clear b
 have qq := qR
 have HE : Hid (REnd w Z (.returned (.agg #[.bool (decide (Z.num < 0)), .slice mo ml mc, .slice mO mL mC])) (((w4.setCell ⟨g + 1 + 1, 0, none⟩ (.bool (decide (Z.num < 0)))).setCell ⟨g + 1 + 1, 1, none⟩ (.slice mo ml mc)).setCell ⟨g + 1 + 1, 2, none⟩ (.slice mO mL mC))) := rat_done rfl (by rw [HG.out]; omega) hm hd hap hszz (hb)
 have HW : Hid (QCell (((w4.setCell ⟨g + 1 + 1, 0, none⟩ (.bool (decide (Z.num < 0)))).setCell ⟨g + 1 + 1, 1, none⟩ (.slice mo ml mc)).setCell ⟨g + 1 + 1, 2, none⟩ (.slice mO mL mC)) (g + 1 + 1) (decide (Z.num < 0)) (.slice mo ml mc) (.slice mO mL mC)) := qq.write _ _ _
 obtain ⟨y0, y1, y2⟩ := qq.cells
 have f0 := qq.thaw 0
 have f1 := qq.thaw 1
 have f2 := qq.thaw 2
 generalize decide (Z.num < 0) = bb at *
 clear qq hap
 clear hb hsz hszz hm hd qa qb qR hA hB
 go_wp2_with fail
 (try simp only [Exit.inBlock, Exit.then])
 exact bodyPost_ret (results_ct (p := 4) (u := 5) rfl _ _ (g + 1 + 1) 27 _ (0, 0) _ rfl HW.out Tryz.underlying27 rfl (by kernel_rfl)) rfl HE.out.t
theorem simplest_zero (na : Bool) (ao aO : Option Addr) (al ac aL aC : Nat) (nb : Bool) (bo bO : Option Addr) (bl bc bL bC : Nat) {p r : Int} {q k : Nat} {w : World} (hA : RV w (.agg #[.bool na, .slice ao al ac, .slice aO aL aC]) p q) (hB : RV w (.agg #[.bool nb, .slice bo bl bc, .slice bO bL bC]) r k) (hc : ¬ 0 < cmpQ (rq p q) (rq r k)) (hs1 : ¬ 0 < sgnQ (rq p q)) (hs2 : ¬ sgnQ (rq r k) < 0) (Z : Rat) (hZ : Z = 0) : Calls Tryz.prog 12 #[.agg #[.bool na, .slice ao al ac, .slice aO aL aC], .agg #[.bool nb, .slice bo bl bc, .slice bO bL bC]] w fun e w' => RTEnd w Z e w' := by
 have HC : Hid (¬ 0 < cmpQ (rq p q) (rq r k)) := hc
 clear hc
 have Hsa : Hid (¬ 0 < sgnQ (rq p q)) := hs1
 have Hsb : Hid (¬ sgnQ (rq r k) < 0) := hs2
 have HZ : Hid (Z = 0) := hZ
 clear hs1 hs2 hZ
 obtain ⟨W1, hW1⟩ : ∃ W1, W1 = ((w.alloc (.cells #[.bool na, .slice ao al ac, .slice aO aL aC] 27)).alloc (.cells #[.bool nb, .slice bo bl bc, .slice bO bL bC] 27)).alloc (.cells #[.bool false, .slice none 0 0, .slice none 0 0] 27) := ⟨_, rfl⟩
 have qa : QCell W1 (w.heap.size) na (.slice ao al ac) (.slice aO aL aC) := by rw [hW1]; exact (qcell_step (qcell_step (qcell_new _ (by simp))))
 have qb : QCell W1 (w.heap.size + 1) nb (.slice bo bl bc) (.slice bO bL bC) := by rw [hW1]; exact (qcell_step (qcell_new _ (by simp)))
 have qR : QCell W1 (w.heap.size + 1 + 1) false (.slice none 0 0) (.slice none 0 0) := by rw [hW1]; exact (qcell_new _ (by simp))
 have hb : Below w.heap.size w W1 := by rw [hW1]; exact bstep (bstep (belowA w _) (belowA _ _)) (belowA _ _)
 have hsz : w.heap.size + 1 + 1 < W1.heap.size := by rw [hW1]; simp
 replace hA := hA.below hb
 replace hB := hB.below hb
 have HW1 : Hid (W1 = ((w.alloc (.cells #[.bool na, .slice ao al ac, .slice aO aL aC] 27)).alloc (.cells #[.bool nb, .slice bo bl bc, .slice bO bL bC] 27)).alloc (.cells #[.bool false, .slice none 0 0, .slice none 0 0] 27)) := hW1
 clear hW1
 go_enter Tryz.func12, Tryz.ntmps12
 go_wp2_with fail
 rw [← HW1.out]
 clear HW1
 obtain ⟨g, hg⟩ : ∃ g, g = w.heap.size := ⟨_, rfl⟩
 rw [← hg] at qa qb qR hsz ⊢
 have HG : Hid (g = w.heap.size) := hg
 clear hg
 obtain ⟨cqa0, cqa1, cqa2⟩ := qa.cells
 obtain ⟨cqb0, cqb1, cqb2⟩ := qb.cells
 obtain ⟨cqR0, cqR1, cqR2⟩ := qR.cells
 go_wp2_with fail
 clear cqa0 cqa1 cqa2 cqb0 cqb1 cqb2 cqR0 cqR1 cqR2
 have hq := aCmpF hA hB
 obtain ⟨c, hc⟩ : ∃ c, c = cmpQ (rq p q) (rq r k) := ⟨_, rfl⟩
 have hc0 : ¬ 0 < c := by rw [hc]; have := HC.out; omega
 rw [← hc] at hq
 clear hc
 refine (hq).mono ?_
 rintro e w2 ⟨rfl, b⟩
 clear hq
 replace hA := hA.below b
 replace hB := hB.below b
 replace qa := qa.below b
 replace qb := qb.below b
 replace qR := qR.below b
 replace hb := bstep hb b
 replace hsz := Nat.lt_of_lt_of_le hsz b.size
 clear b
 obtain ⟨cqa0, cqa1, cqa2⟩ := qa.cells
 obtain ⟨cqb0, cqb1, cqb2⟩ := qb.cells
 obtain ⟨cqR0, cqR1, cqR2⟩ := qR.cells
 go_wp2_with fail
 clear cqa0 cqa1 cqa2 cqb0 cqb1 cqb2 cqR0 cqR1 cqR2
 have hq := aSignF hA
 obtain ⟨sa, hs⟩ : ∃ s, s = sgnQ (rq p q) := ⟨_, rfl⟩
 have hsa : ¬ 0 < sa := by rw [hs]; have := Hsa.out; omega
 rw [← hs] at hq
 clear hs
 refine (hq).mono ?_
 rintro e w3 ⟨rfl, b⟩
 clear hq
 replace hA := hA.below b
 replace hB := hB.below b
 replace qa := qa.below b
 replace qb := qb.below b
 replace qR := qR.below b
 replace hb := bstep hb b
 replace hsz := Nat.lt_of_lt_of_le hsz b.size
 clear b
 obtain ⟨cqa0, cqa1, cqa2⟩ := qa.cells
 obtain ⟨cqb0, cqb1, cqb2⟩ := qb.cells
 obtain ⟨cqR0, cqR1, cqR2⟩ := qR.cells
 go_wp2_with fail
 clear cqa0 cqa1 cqa2 cqb0 cqb1 cqb2 cqR0 cqR1 cqR2
 have hq := aSignF hB
 obtain ⟨sb, hs⟩ : ∃ s, s = sgnQ (rq r k) := ⟨_, rfl⟩
 have hsb : ¬ sb < 0 := by rw [hs]; have := Hsb.out; omega
 rw [← hs] at hq
 clear hs
 refine (hq).mono ?_
 rintro e w4 ⟨rfl, b⟩
 clear hq
 replace hA := hA.below b
 replace hB := hB.below b
 replace qa := qa.below b
 replace qb := qb.below b
 replace qR := qR.below b
 replace hb := bstep hb b
 replace hsz := Nat.lt_of_lt_of_le hsz b.size
 clear b
 obtain ⟨cqa0, cqa1, cqa2⟩ := qa.cells
 obtain ⟨cqb0, cqb1, cqb2⟩ := qb.cells
 obtain ⟨cqR0, cqR1, cqR2⟩ := qR.cells
 go_wp2_with fail
 clear cqa0 cqa1 cqa2 cqb0 cqb1 cqb2 cqR0 cqR1 cqR2
 have hq := c_rsum none 0 0 0 (fun _ => 0) 1 w4 (fun h => absurd h (by decide)) (fun i hi => absurd hi (by omega)) (by decide)
 have hq9 : Calls Tryz.prog 20 #[.slice none 0 0] w4 fun e w' => REnd w4 Z e w' := by rw [HZ.out]; exact hq
 clear hq
 have hszz := hsz
 refine (hq9).mono ?_
 rintro e w5 ⟨v, rfl, hv, b⟩
 clear hq9
 obtain ⟨m, d, rfl, hm, hd, hap⟩ := hv
 obtain ⟨mo, ml, mc, rfl⟩ := hm.sl
 obtain ⟨mO, mL, mC, rfl⟩ := hd.sl
 replace hA := hA.below b
 replace hB := hB.below b
 replace qa := qa.below b
 replace qb := qb.below b
 replace qR := qR.below b
 replace hb := bstep hb b
 replace hsz := Nat.lt_of_lt_of_le hsz b.size
 clear b
 have qq := qR
 have HE : Hid (REnd w Z (.returned (.agg #[.bool (decide (Z.num < 0)), .slice mo ml mc, .slice mO mL mC])) (((w5.setCell ⟨g + 1 + 1, 0, none⟩ (.bool (decide (Z.num < 0)))).setCell ⟨g + 1 + 1, 1, none⟩ (.slice mo ml mc)).setCell ⟨g + 1 + 1, 2, none⟩ (.slice mO mL mC))) := rat_done rfl (by rw [HG.out]; omega) hm hd hap hszz (hb)
 have HW : Hid (QCell (((w5.setCell ⟨g + 1 + 1, 0, none⟩ (.bool (decide (Z.num < 0)))).setCell ⟨g + 1 + 1, 1, none⟩ (.slice mo ml mc)).setCell ⟨g + 1 + 1, 2, none⟩ (.slice mO mL mC)) (g + 1 + 1) (decide (Z.num < 0)) (.slice mo ml mc) (.slice mO mL mC)) := qq.write _ _ _
 obtain ⟨y0, y1, y2⟩ := qq.cells
 have f0 := qq.thaw 0
 have f1 := qq.thaw 1
 have f2 := qq.thaw 2
 generalize decide (Z.num < 0) = bb at *
 clear qq hap
 clear hb hsz hszz hm hd qa qb qR hA hB
 go_wp2_with fail
 (try simp only [Exit.inBlock, Exit.then])
 exact bodyPost_ret (results_ct (p := 4) (u := 5) rfl _ _ (g + 1 + 1) 27 _ (0, 0) _ rfl HW.out Tryz.underlying27 rfl (by kernel_rfl)) rfl HE.out.t
theorem simplest_neg (na : Bool) (ao aO : Option Addr) (al ac aL aC : Nat) (nb : Bool) (bo bO : Option Addr) (bl bc bL bC : Nat) {p r : Int} {q k : Nat} {w : World} (hA : RV w (.agg #[.bool na, .slice ao al ac, .slice aO aL aC]) p q) (hB : RV w (.agg #[.bool nb, .slice bo bl bc, .slice bO bL bC]) r k) (hc : ¬ 0 < cmpQ (rq p q) (rq r k)) (hs1 : ¬ 0 < sgnQ (rq p q)) (hs2 : sgnQ (rq r k) < 0) (hr0 : (rq r k).num < 0) : Calls Tryz.prog 12 #[.agg #[.bool na, .slice ao al ac, .slice aO aL aC], .agg #[.bool nb, .slice bo bl bc, .slice bO bL bC]] w fun e w' => RTEnd w (-sQ (-rq r k) (-rq p q)) e w' := by
 have HC : Hid (¬ 0 < cmpQ (rq p q) (rq r k)) := hc
 clear hc
 have Hsa : Hid (¬ 0 < sgnQ (rq p q)) := hs1
 have Hsb : Hid (sgnQ (rq r k) < 0) := hs2
 have HU : Hid (UpTo (-rq r k) (-rq p q)) := UpTo.neg (cmpQ_le HC.out) hr0
 obtain ⟨Z, hZ⟩ : ∃ Z, Z = -sQ (-rq r k) (-rq p q) := ⟨_, rfl⟩
 rw [← hZ]
 have HZ : Hid (Z = -sQ (-rq r k) (-rq p q)) := hZ
 clear hs1 hs2 hr0 hZ
 obtain ⟨W1, hW1⟩ : ∃ W1, W1 = ((w.alloc (.cells #[.bool na, .slice ao al ac, .slice aO aL aC] 27)).alloc (.cells #[.bool nb, .slice bo bl bc, .slice bO bL bC] 27)).alloc (.cells #[.bool false, .slice none 0 0, .slice none 0 0] 27) := ⟨_, rfl⟩
 have qa : QCell W1 (w.heap.size) na (.slice ao al ac) (.slice aO aL aC) := by rw [hW1]; exact (qcell_step (qcell_step (qcell_new _ (by simp))))
 have qb : QCell W1 (w.heap.size + 1) nb (.slice bo bl bc) (.slice bO bL bC) := by rw [hW1]; exact (qcell_step (qcell_new _ (by simp)))
 have qR : QCell W1 (w.heap.size + 1 + 1) false (.slice none 0 0) (.slice none 0 0) := by rw [hW1]; exact (qcell_new _ (by simp))
 have hb : Below w.heap.size w W1 := by rw [hW1]; exact bstep (bstep (belowA w _) (belowA _ _)) (belowA _ _)
 have hsz : w.heap.size + 1 + 1 < W1.heap.size := by rw [hW1]; simp
 replace hA := hA.below hb
 replace hB := hB.below hb
 have HW1 : Hid (W1 = ((w.alloc (.cells #[.bool na, .slice ao al ac, .slice aO aL aC] 27)).alloc (.cells #[.bool nb, .slice bo bl bc, .slice bO bL bC] 27)).alloc (.cells #[.bool false, .slice none 0 0, .slice none 0 0] 27)) := hW1
 clear hW1
 go_enter Tryz.func12, Tryz.ntmps12
 go_wp2_with fail
 rw [← HW1.out]
 clear HW1
 obtain ⟨g, hg⟩ : ∃ g, g = w.heap.size := ⟨_, rfl⟩
 rw [← hg] at qa qb qR hsz ⊢
 have HG : Hid (g = w.heap.size) := hg
 clear hg
 obtain ⟨cqa0, cqa1, cqa2⟩ := qa.cells
 obtain ⟨cqb0, cqb1, cqb2⟩ := qb.cells
 obtain ⟨cqR0, cqR1, cqR2⟩ := qR.cells
 go_wp2_with fail
 clear cqa0 cqa1 cqa2 cqb0 cqb1 cqb2 cqR0 cqR1 cqR2
 have hq := aCmpF hA hB
 obtain ⟨c, hc⟩ : ∃ c, c = cmpQ (rq p q) (rq r k) := ⟨_, rfl⟩
 have hc0 : ¬ 0 < c := by rw [hc]; have := HC.out; omega
 rw [← hc] at hq
 clear hc
 refine (hq).mono ?_
 rintro e w2 ⟨rfl, b⟩
 clear hq
 replace hA := hA.below b
 replace hB := hB.below b
 replace qa := qa.below b
 replace qb := qb.below b
 replace qR := qR.below b
 replace hb := bstep hb b
 replace hsz := Nat.lt_of_lt_of_le hsz b.size
 clear b
 obtain ⟨cqa0, cqa1, cqa2⟩ := qa.cells
 obtain ⟨cqb0, cqb1, cqb2⟩ := qb.cells
 obtain ⟨cqR0, cqR1, cqR2⟩ := qR.cells
 go_wp2_with fail
 clear cqa0 cqa1 cqa2 cqb0 cqb1 cqb2 cqR0 cqR1 cqR2
 have hq := aSignF hA
 obtain ⟨sa, hs⟩ : ∃ s, s = sgnQ (rq p q) := ⟨_, rfl⟩
 have hsa : ¬ 0 < sa := by rw [hs]; have := Hsa.out; omega
 rw [← hs] at hq
 clear hs
 refine (hq).mono ?_
 rintro e w3 ⟨rfl, b⟩
 clear hq
 replace hA := hA.below b
 replace hB := hB.below b
 replace qa := qa.below b
 replace qb := qb.below b
 replace qR := qR.below b
 replace hb := bstep hb b
 replace hsz := Nat.lt_of_lt_of_le hsz b.size
 clear b
 obtain ⟨cqa0, cqa1, cqa2⟩ := qa.cells
 obtain ⟨cqb0, cqb1, cqb2⟩ := qb.cells
 obtain ⟨cqR0, cqR1, cqR2⟩ := qR.cells
 go_wp2_with fail
 clear cqa0 cqa1 cqa2 cqb0 cqb1 cqb2 cqR0 cqR1 cqR2
 have hq := aSignF hB
 obtain ⟨sb, hs⟩ : ∃ s, s = sgnQ (rq r k) := ⟨_, rfl⟩
 have hsb : sb < 0 := by rw [hs]; have := Hsb.out; omega
 rw [← hs] at hq
 clear hs
 refine (hq).mono ?_
 rintro e w4 ⟨rfl, b⟩
 clear hq
 replace hA := hA.below b
 replace hB := hB.below b
 replace qa := qa.below b
 replace qb := qb.below b
 replace qR := qR.below b
 replace hb := bstep hb b
 replace hsz := Nat.lt_of_lt_of_le hsz b.size
 clear b
 obtain ⟨cqa0, cqa1, cqa2⟩ := qa.cells
 obtain ⟨cqb0, cqb1, cqb2⟩ := qb.cells
 obtain ⟨cqR0, cqR1, cqR2⟩ := qR.cells
 go_wp2_with fail
 clear cqa0 cqa1 cqa2 cqb0 cqb1 cqb2 cqR0 cqR1 cqR2
 have HS : Hid (RSz (-rq r k) 40 ∧ RSz (-rq p q) 40 ∧ RSz (sQ (-rq r k) (-rq p q)) 40) := ⟨rsz_neg hB.sz.1 hB.sz.2, rsz_neg hA.sz.1 hA.sz.2, HU.out.sz (rsz_neg hB.sz.1 hB.sz.2)⟩
 have KEEP : ∀ u, Below w4.heap.size w4 u → AllL u [(0, fun w' => w'.cell? ⟨g + 1, 0, none⟩ = some (.bool nb) ∧ w'.cell? ⟨g + 1, 1, none⟩ = some (.slice bo bl bc) ∧ w'.cell? ⟨g + 1, 2, none⟩ = some (.slice bO bL bC)), (2, fun w' => w'.cell? ⟨g, 0, none⟩ = some (.bool na) ∧ w'.cell? ⟨g, 1, none⟩ = some (.slice ao al ac) ∧ w'.cell? ⟨g, 2, none⟩ = some (.slice aO aL aC))] := fun u B => ⟨(qb.below B).cells, (qa.below B).cells, trivial⟩
 refine region_late [(0, fun w' => w'.cell? ⟨g + 1, 0, none⟩ = some (.bool nb) ∧ w'.cell? ⟨g + 1, 1, none⟩ = some (.slice bo bl bc) ∧ w'.cell? ⟨g + 1, 2, none⟩ = some (.slice bO bL bC)), (2, fun w' => w'.cell? ⟨g, 0, none⟩ = some (.bool na) ∧ w'.cell? ⟨g, 1, none⟩ = some (.slice ao al ac) ∧ w'.cell? ⟨g, 2, none⟩ = some (.slice aO aL aC))] (by kernel_rfl) ?_
 have BZ : Below w4.heap.size w4 w4.drew := below_drew' _
 obtain ⟨wz, hwz⟩ : ∃ u, u = w4.drew := ⟨_, rfl⟩
 rw [← hwz] at BZ ⊢
 clear hwz
 have hHeld := KEEP _ BZ
 have khA := hA.below BZ
 have khB := hB.below BZ
 refine late_tk 0 (v := .agg #[.bool nb, .slice bo bl bc, .slice bO bL bC]) rfl (List.Mem.head _) (Or.inl ⟨by rfl, ?_⟩) hHeld ?_
 · (intro u hu; (try dsimp only at hu); go_split_ands; go_simp)
 try simp only [pu1, pu2, pu3, pu4]
 refine late_tk 2 (v := .agg #[.bool na, .slice ao al ac, .slice aO aL aC]) rfl (List.Mem.tail _ (List.Mem.head _)) (Or.inl ⟨by rfl, ?_⟩) hHeld ?_
 · (intro u hu; (try dsimp only at hu); go_split_ands; go_simp)
 try simp only [pu1, pu2, pu3, pu4]
 refine late_st 1 rfl (fun K hK => ?_)
 go_simp
 refine (c_rneg khB.rn (by decide)).mono ?_
 rintro e w5 ⟨v, rfl, hv, b5⟩
 have r1 := hv.rv HS.out.1
 clear hv khB
 obtain ⟨z1, o1, l1, c1, O1, L1, C1, rfl, _, _⟩ := id r1
 replace khA := khA.below b5
 have B5 : Below w4.heap.size w4 w5 := bstep BZ b5
 clear BZ b5
 replace hHeld := KEEP _ B5
 go_wp2_with fail
 refine hK.out _ _ (AllL.kept hHeld) ?_
 clear hK K
 try simp only [pu1, pu2, pu3, pu4]
 refine late_st 3 rfl (fun K hK => ?_)
 go_simp
 refine (c_rneg khA.rn (by decide)).mono ?_
 rintro e w6 ⟨v, rfl, hv, b6⟩
 have r2 := hv.rv HS.out.2.1
 clear hv khA
 obtain ⟨z2, o2, l2, c2, O2, L2, C2, rfl, _, _⟩ := id r2
 replace r1 := r1.below b6
 have B6 : Below w4.heap.size w4 w6 := bstep B5 b6
 clear B5 b6
 replace hHeld := KEEP _ B6
 go_wp2_with fail
 refine hK.out _ _ (AllL.kept hHeld) ?_
 clear hK K
 try simp only [pu1, pu2, pu3, pu4]
 have hq := between_q r1 r2 (by rw [rq_std, rq_std]; exact HU.out)
 rw [rq_std, rq_std] at hq
 refine late_st 4 rfl (fun K hK => ?_)
 go_simp
 refine (hq).mono ?_
 rintro e w7 ⟨v, rfl, hv, b7⟩
 clear hq r1 r2
 have r3 := hv.rv HS.out.2.2
 clear hv
 obtain ⟨z3, o3, l3, c3, O3, L3, C3, rfl, _, _⟩ := id r3
 have B7 : Below w4.heap.size w4 w7 := bstep B6 b7
 clear B6 b7
 replace hHeld := KEEP _ B7
 go_wp2_with fail
 refine hK.out _ _ (AllL.kept hHeld) ?_
 clear hK K
 try simp only [pu1, pu2, pu3, pu4]
 have hq := c_rneg r3.rn (by decide)
 rw [rq_std, ← HZ.out] at hq
 have hbase := Nat.lt_of_lt_of_le hsz B7.size
 refine late_st 5 rfl (fun K hK => ?_)
 go_simp
 refine (hq).mono ?_
 rintro e w8 ⟨v, rfl, hv, b8⟩
 clear hq r3
 obtain ⟨m, d, rfl, hm, hd, hap⟩ := hv
 obtain ⟨mo, ml, mc, rfl⟩ := hm.sl
 obtain ⟨mO, mL, mC, rfl⟩ := hd.sl
 have B8 : Below w4.heap.size w4 w8 := bstep B7 b8
 clear B7 b8
 replace hHeld := KEEP _ B8
 go_wp2_with fail
 refine hK.out _ _ (AllL.kept hHeld) ?_
 clear hK K
 try simp only [pu1, pu2, pu3, pu4]
 have qq := qR.below B8
 have HE : Hid (REnd w Z (.returned (.agg #[.bool (decide (Z.num < 0)), .slice mo ml mc, .slice mO mL mC])) (((w8.setCell ⟨g + 1 + 1, 0, none⟩ (.bool (decide (Z.num < 0)))).setCell ⟨g + 1 + 1, 1, none⟩ (.slice mo ml mc)).setCell ⟨g + 1 + 1, 2, none⟩ (.slice mO mL mC))) := rat_done rfl (by rw [HG.out]; omega) hm hd hap hbase (bstep hb B8)
 have HW : Hid (QCell (((w8.setCell ⟨g + 1 + 1, 0, none⟩ (.bool (decide (Z.num < 0)))).setCell ⟨g + 1 + 1, 1, none⟩ (.slice mo ml mc)).setCell ⟨g + 1 + 1, 2, none⟩ (.slice mO mL mC)) (g + 1 + 1) (decide (Z.num < 0)) (.slice mo ml mc) (.slice mO mL mC)) := qq.write _ _ _
 obtain ⟨y0, y1, y2⟩ := qq.cells
 have f0 := qq.thaw 0
 have f1 := qq.thaw 1
 have f2 := qq.thaw 2
 generalize decide (Z.num < 0) = bb at *
 clear qq hm hd hap KEEP
 refine late_st 6 rfl (fun K hK => ?_)
 go_simp
 refine hK.out _ _ ⟨kpt 1, kpt 3, trivial⟩ ?_
 clear hK K
 try simp only [pu1, pu2, pu3, pu4]
 refine late_st 7 rfl (fun K hK => ?_)
 go_simp
 refine hK.out _ _ ⟨kpt 1, kpt 3, trivial⟩ ?_
 clear hK K
 try simp only [pu1, pu2, pu3, pu4]
 refine late_done (by kernel_rfl) ?_ _
 clear hHeld hb hsz hbase B8 qa qb qR hA hB y0 y1 y2 f0 f1 f2
 go_wp2_with fail
 (try simp only [Exit.inBlock, Exit.then])
 exact bodyPost_ret (results_ct (p := 4) (u := 5) rfl _ _ (g + 1 + 1) 27 _ (0, 0) _ rfl HW.out Tryz.underlying27 rfl (by kernel_rfl)) rfl HE.out.t
theorem sgn_pos {x : Rat} : 0 < sgnQ x ↔ 0 < x.num := by
 unfold sgnQ cmpZ
 split
 · constructor <;> intro h <;> omega
 ·
  split
  · constructor <;> intro h <;> omega
  · constructor <;> intro h <;> omega
theorem sgn_neg {x : Rat} : sgnQ x < 0 ↔ x.num < 0 := by
 unfold sgnQ cmpZ
 split
 · constructor <;> intro h <;> omega
 ·
  split
  · constructor <;> intro h <;> omega
  · constructor <;> intro h <;> omega
theorem simplestF {w : World} {va vb : Value} {p r : Int} {q k : Nat} (h : RV w va p q) (h' : RV w vb r k) (hc : ¬ 0 < cmpQ (rq p q) (rq r k)) : Calls Tryz.prog 12 #[va, vb] w fun e w' => RTEnd w (spQ (rq p q) (rq r k)) e w' := by
 obtain ⟨n, ao, al, ac, bo, bl, bc, rfl, h1, h2⟩ := h
 obtain ⟨n', ao', al', ac', bo', bl', bc', rfl, h1', h2'⟩ := h'
 have hA : RV w (.agg #[.bool n, .slice ao al ac, .slice bo bl bc]) p q := ⟨_, _, _, _, _, _, _, rfl, h1, h2⟩
 have hB : RV w (.agg #[.bool n', .slice ao' al' ac', .slice bo' bl' bc']) r k := ⟨_, _, _, _, _, _, _, rfl, h1', h2'⟩
 unfold spQ
 split
 ·
  rename_i hp
  exact simplest_pos n ao bo al ac bl bc n' ao' bo' al' ac' bl' bc' hA hB hc (sgn_pos.2 hp) hp
 ·
  rename_i hp
  split
  ·
   rename_i hr
   exact simplest_neg n ao bo al ac bl bc n' ao' bo' al' ac' bl' bc' hA hB hc (fun h => hp (sgn_pos.1 h)) (sgn_neg.2 hr) hr
  ·
   rename_i hr
   exact simplest_zero n ao bo al ac bl bc n' ao' bo' al' ac' bl' bc' hA hB hc (fun h => hp (sgn_pos.1 h)) (fun h => hr (sgn_neg.1 h)) 0 rfl
open Go.RowKit

open Go.RowKit

theorem small3 (w : World) : Calls Tryz.prog 29 #[.int .i64 0, .int .i64 1] w fun e w' => REnd w 0 e w' := by
 obtain ⟨W1, hW1⟩ : ∃ W1, W1 = w.alloc (.cells #[.bool false, .slice none 0 0, .slice none 0 0] 27) := ⟨_, rfl⟩
 have qR : QCell W1 (w.heap.size) false (.slice none 0 0) (.slice none 0 0) := by rw [hW1]; exact (qcell_new _ (by simp))
 have hb : Below w.heap.size w W1 := by rw [hW1]; exact belowA w _
 have hsz : w.heap.size < W1.heap.size := by rw [hW1]; simp
 have HW1 : Hid (W1 = w.alloc (.cells #[.bool false, .slice none 0 0, .slice none 0 0] 27)) := hW1
 clear hW1
 go_enter Tryz.func29, Tryz.ntmps29
 go_wp2_with fail
 rw [← HW1.out]
 clear HW1
 obtain ⟨g, hg⟩ : ∃ g, g = w.heap.size := ⟨_, rfl⟩
 rw [← hg] at qR hsz ⊢
 have HG : Hid (g = w.heap.size) := hg
 clear hg
 have hq := of3_yes (n := 0) (d := 1) (w := W1) (by decide) (by decide) (by decide) (by decide) (by decide)
 rw [show Rat.divInt 0 1 = 0 by decide] at hq
 have hszz := hsz
 refine (hq).mono ?_
 rintro e w2 ⟨v, rfl, hv, b⟩
 clear hq
 obtain ⟨m, d, rfl, hm, hd, hap⟩ := hv
 obtain ⟨mo, ml, mc, rfl⟩ := hm.sl
 obtain ⟨mO, mL, mC, rfl⟩ := hd.sl
 generalize hbb : decide ((0 : Rat).num < 0) = bb
 have hown : ROwn (g + 1) w2 (.agg #[.bool bb, .slice mo ml mc, .slice mO mL mC]) 0 := ⟨_, _, by rw [← hbb], hm.mono hszz, hd.mono hszz, hap⟩
 clear hbb hm hd hap hszz
 replace qR := qR.below b
 replace hb := bstep hb b
 replace hsz := Nat.lt_of_lt_of_le hsz b.size
 clear b
 obtain ⟨W3, hW3⟩ : ∃ W, W = w2.alloc (.cells #[.bool bb, .slice mo ml mc, .slice mO mL mC] 27) := ⟨_, rfl⟩
 have qA : QCell W3 (w2.heap.size) bb (.slice mo ml mc) (.slice mO mL mC) := by rw [hW3]; exact (qcell_new _ rfl)
 have b : Below w2.heap.size w2 W3 := by rw [hW3]; exact belowA _ _
 replace hown := hown.below b
 replace qR := qR.below b
 replace hb := bstep hb b
 replace hsz := Nat.lt_of_lt_of_le hsz b.size
 clear b
 have rqR0 : (w2.alloc (.cells #[.bool bb, .slice mo ml mc, .slice mO mL mC] 27)).cell? ⟨g, 0, none⟩ = some (.bool false) := by rw [← hW3]; exact qR.cells.1
 have rqR1 : (w2.alloc (.cells #[.bool bb, .slice mo ml mc, .slice mO mL mC] 27)).cell? ⟨g, 1, none⟩ = some (.slice none 0 0) := by rw [← hW3]; exact qR.cells.2.1
 have rqR2 : (w2.alloc (.cells #[.bool bb, .slice mo ml mc, .slice mO mL mC] 27)).cell? ⟨g, 2, none⟩ = some (.slice none 0 0) := by rw [← hW3]; exact qR.cells.2.2
 have rqA0 : (w2.alloc (.cells #[.bool bb, .slice mo ml mc, .slice mO mL mC] 27)).cell? ⟨w2.heap.size, 0, none⟩ = some (.bool bb) := by rw [← hW3]; exact qA.cells.1
 have rqA1 : (w2.alloc (.cells #[.bool bb, .slice mo ml mc, .slice mO mL mC] 27)).cell? ⟨w2.heap.size, 1, none⟩ = some (.slice mo ml mc) := by rw [← hW3]; exact qA.cells.2.1
 have rqA2 : (w2.alloc (.cells #[.bool bb, .slice mo ml mc, .slice mO mL mC] 27)).cell? ⟨w2.heap.size, 2, none⟩ = some (.slice mO mL mC) := by rw [← hW3]; exact qA.cells.2.2
 obtain ⟨v3, hv3⟩ : ∃ v, v = w2.heap.size := ⟨_, rfl⟩
 rw [← hv3] at qA
 have HW3 : Hid (W3 = w2.alloc (.cells #[.bool bb, .slice mo ml mc, .slice mO mL mC] 27)) := hW3
 have Hv3 : Hid (v3 = w2.heap.size) := hv3
 clear hW3 hv3
 obtain ⟨m, d, he, hm, hd, hap⟩ := hown
 simp only [Value.agg.injEq, Array.mk.injEq, List.cons.injEq, Value.bool.injEq, and_true] at he
 obtain ⟨hbb, rfl, rfl⟩ := he
 have HE : Hid (REnd w 0 (.returned (.agg #[.bool bb, .slice mo ml mc, .slice mO mL mC])) (((W3.setCell ⟨g, 0, none⟩ (.bool bb)).setCell ⟨g, 1, none⟩ (.slice mo ml mc)).setCell ⟨g, 2, none⟩ (.slice mO mL mC))) := rat_done hbb (by rw [HG.out]; exact Nat.le_refl _) hm hd hap (Nat.lt_succ_self g) hb
 have HW : Hid (QCell (((W3.setCell ⟨g, 0, none⟩ (.bool bb)).setCell ⟨g, 1, none⟩ (.slice mo ml mc)).setCell ⟨g, 2, none⟩ (.slice mO mL mC)) g bb (.slice mo ml mc) (.slice mO mL mC)) := qR.write _ _ _
 have f0 := qR.thaw 0
 have f1 := qR.thaw 1
 have f2 := qR.thaw 2
 rw [HW3.out] at f0 f1 f2
 clear hbb hm hd hap hb hsz qR qA
 go_wp2_with fail
 rw [← HW3.out, ← Hv3.out]
 clear HW3 Hv3 rqR0 rqR1 rqR2 rqA0 rqA1 rqA2
 (try simp only [Exit.inBlock, Exit.then])
 exact bodyPost_ret (results_cell_row rfl _ _ (g) 27 _ (0, 0) _ rfl HW.out Tryz.underlying27 rfl (by kernel_rfl)) rfl HE.out
open Go.RowKit

def RQ (w : World) (v : Value) (a : Rat) : Prop := ∃ p q, RV w v p q ∧ a = rq p q
theorem RQ.below {w w' : World} {v : Value} {a : Rat} (h : RQ w v a) (hb : Below w.heap.size w w') : RQ w' v a := by
 obtain ⟨p, q, h1, h2⟩ := h
 exact ⟨p, q, h1.below hb, h2⟩
theorem RQ.sz {w : World} {v : Value} {a : Rat} (h : RQ w v a) : RSz a 40 := by
 obtain ⟨p, q, h1, rfl⟩ := h
 exact RSz.of (und_ne q) h1.sz.1 h1.sz.2
theorem RQ.see {w : World} {v : Value} {a : Rat} (h : RQ w v a) : ∃ n ao al ac bo bl bc, v = .agg #[.bool n, .slice ao al ac, .slice bo bl bc] := by
 obtain ⟨p, q, ⟨n, ao, al, ac, bo, bl, bc, e, _⟩, _⟩ := h
 exact ⟨n, ao, al, ac, bo, bl, bc, e⟩
theorem ROwn.rq {B : Nat} {w : World} {v : Value} {a : Rat} (h : ROwn B w v a) (hs : RSz a 40) : RQ w v a := by
 obtain ⟨n, ao, al, ac, bo, bl, bc, rfl, h1, h2⟩ := h.seeB hs
 exact ⟨a.num, a.den, ⟨n, ao, al, ac, bo, bl, bc, rfl, h1, h2⟩, (rq_std a).symm⟩
def flo (a : Rat) : Int := a.num / (a.den : Int)
theorem fq_pos {x y : Int} (hy : 0 < y) : fq x y = x / y := by
 have h1 := Int.emod_nonneg x (Int.ne_of_gt hy)
 have h2 := Int.emod_lt_of_pos x hy
 have h3 := Int.mul_ediv_add_emod x y
 have h4 := Int.mul_tdiv_add_tmod x y
 have hz : rz x y = x.tmod y := by unfold rz; rw [if_neg (by omega)]
 have hc : cmpZ y 0 = 1 := by unfold cmpZ; rw [if_neg (by omega), if_neg (by omega)]
 have h5 : x.tmod y < y := Int.tmod_lt_of_pos x hy
 have h6 : -y < x.tmod y := Int.lt_tmod_of_pos x hy
 have hf : fup x y ↔ x.tmod y < 0 := by
  unfold fup
  rw [hz, hc, Int.mul_one]
  unfold cmpZ
  split
  · rename_i h; simp [h]
  · rename_i h; split <;> simp <;> omega
 unfold fq
 by_cases hn : x.tmod y < 0
 ·
  rw [if_pos (hf.2 hn)]
  generalize x.tmod y = t at *
  have := Int.ediv_emod_unique hy |>.2 ⟨show (y + t) + y * (x.tdiv y - 1) = x by rw [Int.mul_sub, Int.mul_one]; omega, by omega, by omega⟩
  exact this.1.symm
 ·
  rw [if_neg (fun h => hn (hf.1 h))]
  generalize x.tmod y = t at *
  have := Int.ediv_emod_unique hy |>.2 ⟨show t + y * (x.tdiv y) = x by omega, by omega, by omega⟩
  exact this.1.symm
theorem flo_rq (p : Int) (q : Nat) : fq p (und q) = flo (rq p q) := by
 rw [fq_pos (und_pos q)]
 obtain ⟨k, hk, e1, e2⟩ := rq_parts p q
 unfold flo
 rw [e2]
 conv => lhs; lhs; rw [e1]
 exact Int.mul_ediv_mul_of_pos_left _ _ hk
theorem qCmp {w : World} {v u : Value} {a b : Rat} (h : RQ w v a) (h' : RQ w u b) : Calls Tryz.prog 41 #[v, u] w fun e w' => e = .returned (.int .i64 (cmpQ a b)) ∧ Below w.heap.size w w' := by
 obtain ⟨p, q, h1, rfl⟩ := h
 obtain ⟨p', q', h1', rfl⟩ := h'
 exact aCmpR h1 h1'
theorem qSign {w : World} {v : Value} {a : Rat} (h : RQ w v a) : Calls Tryz.prog 27 #[v] w fun e w' => e = .returned (.int .i64 (sgnQ a)) ∧ Below w.heap.size w w' := by
 obtain ⟨p, q, h1, rfl⟩ := h
 exact aSignR h1
theorem qFloor {w : World} {v : Value} {a : Rat} (h : RQ w v a) : Calls Tryz.prog 24 #[v] w fun e w' => IEnd w (flo a) e w' := by
 obtain ⟨p, q, ⟨n, ao, al, ac, bo, bl, bc, rfl, h1, h2⟩, rfl⟩ := h
 rw [← flo_rq]
 exact floor3 n ao bo al ac bl bc h1 h2 (by decide) (by decide)
theorem qNeg {w : World} {v : Value} {a : Rat} (h : RQ w v a) : Calls Tryz.prog 42 #[v] w fun e w' => REnd w (-a) e w' := by
 obtain ⟨p, q, ⟨n, ao, al, ac, bo, bl, bc, rfl, h1, h2⟩, rfl⟩ := h
 exact neg3 n ao bo al ac bl bc h1 h2 (by decide) (by decide)
theorem qAdd {w : World} {v u : Value} {a b : Rat} (h : RQ w v a) (h' : RQ w u b) : Calls Tryz.prog 62 #[v, u] w fun e w' => REnd w (a + b) e w' := by
 obtain ⟨p, q, ⟨n, ao, al, ac, bo, bl, bc, rfl, h1, h2⟩, rfl⟩ := h
 obtain ⟨p', q', ⟨n', ao', al', ac', bo', bl', bc', rfl, h1', h2'⟩, rfl⟩ := h'
 exact add3 n ao bo al ac bl bc n' ao' bo' al' ac' bl' bc' h1 h2 (by decide) h1' h2' (by decide) (by decide)
theorem qSub {w : World} {v u : Value} {a b : Rat} (h : RQ w v a) (h' : RQ w u b) : Calls Tryz.prog 25 #[v, u] w fun e w' => REnd w (a - b) e w' := by
 obtain ⟨p, q, ⟨n, ao, al, ac, bo, bl, bc, rfl, h1, h2⟩, rfl⟩ := h
 obtain ⟨p', q', ⟨n', ao', al', ac', bo', bl', bc', rfl, h1', h2'⟩, rfl⟩ := h'
 exact sub3 n ao bo al ac bl bc n' ao' bo' al' ac' bl' bc' h1 h2 (by decide) h1' h2' (by decide) (by decide)
theorem qDiv {w : World} {v u : Value} {a b : Rat} (h : RQ w v a) (h' : RQ w u b) (hb : b.num ≠ 0) : Calls Tryz.prog 28 #[v, u] w fun e w' => RTEnd w (a / b) e w' := by
 obtain ⟨p, q, ⟨n, ao, al, ac, bo, bl, bc, rfl, h1, h2⟩, rfl⟩ := h
 obtain ⟨p', q', ⟨n', ao', al', ac', bo', bl', bc', rfl, h1', h2'⟩, rfl⟩ := h'
 refine div3_yes n ao bo al ac bl bc n' ao' bo' al' ac' bl' bc' h1 h2 (by decide) h1' h2' (by decide) (by decide) ?_
 intro h0
 refine hb ?_
 rw [h0]
 unfold rq
 rw [Rat.zero_divInt]
 rfl

def nF (a : Rat) : Nat := a.num.natAbs / a.den
def NF (a : Rat) : Rat := Rat.divInt (nF a : Int) 1
theorem NF_parts (n : Nat) : (Rat.divInt (n : Int) 1).num = n ∧ (Rat.divInt (n : Int) 1).den = 1 := divInt_co (d := 1) (by decide) (Nat.gcd_one_right _)
theorem flo_nF {a : Rat} (ha : 0 < a.num) : flo a = (nF a : Int) := by
 unfold flo nF
 have e : a.num = (a.num.natAbs : Int) := by omega
 rw [e]
 rw [Int.natAbs_natCast]
 rfl
theorem cmp_NF {a : Rat} (ha : 0 < a.num) : cmpQ a (NF a) = 0 ↔ a.num.natAbs % a.den = 0 := by
 obtain ⟨h1, h2⟩ := NF_parts (nF a)
 unfold cmpQ NF
 rw [h1, h2]
 have e0 := Nat.div_add_mod a.num.natAbs a.den
 have e1 : ((nF a : Nat) : Int) * (a.den : Int) = ((a.den * (a.num.natAbs / a.den) : Nat) : Int) := by unfold nF; rw [Int.natCast_mul, Int.mul_comm]
 rw [e1]
 generalize a.den * (a.num.natAbs / a.den) = M at *
 unfold cmpZ
 split
 ·
  constructor <;> intro h
  · exact absurd h (by decide)
  · omega
 ·
  split
  · constructor <;> intro h <;> omega
  ·
   constructor <;> intro h
   · exact absurd h (by decide)
   · omega
theorem NF_one (a : Rat) : NF a + 1 = Rat.divInt ((nF a + 1 : Nat) : Int) 1 := by
 unfold NF
 rw [show (1 : Rat) = Rat.divInt 1 1 by decide, Rat.divInt_add_divInt _ _ (by decide) (by decide)]
 simp
theorem cmp_next {a b : Rat} (hb : 0 < b.num) : cmpQ (NF a + 1) b ≤ 0 ↔ nF a < b.num.natAbs / b.den := by
 obtain ⟨h1, h2⟩ := NF_parts (nF a + 1)
 rw [NF_one]
 unfold cmpQ
 rw [h1, h2]
 have e1 : ((nF a + 1 : Nat) : Int) * (b.den : Int) = (((nF a + 1) * b.den : Nat) : Int) := by rw [Int.natCast_mul]
 rw [e1]
 have k : (nF a + 1) * b.den ≤ b.num.natAbs ↔ nF a + 1 ≤ b.num.natAbs / b.den := (Nat.le_div_iff_mul_le b.den_pos).symm
 generalize (nF a + 1) * b.den = M at *
 unfold cmpZ
 split
 ·
  constructor <;> intro h
  · have := k.1 (by omega); omega
  · decide
 ·
  split
  ·
   constructor <;> intro h
   · have := k.1 (by omega); omega
   · decide
  ·
   constructor <;> intro h
   · exact absurd h (by decide)
   · have := k.2 (by omega); omega
theorem sub_floor {b : Rat} {n : Nat} (hb : 0 < b.num) (hn : n = b.num.natAbs / b.den) : b - Rat.divInt (n : Int) 1 = Rat.divInt ((b.num.natAbs % b.den : Nat) : Int) (b.den : Int) := by
 have hd := b.den_pos
 have e0 := Nat.div_add_mod b.num.natAbs b.den
 conv => lhs; lhs; rw [← Rat.num_divInt_den b]
 rw [Rat.divInt_sub_divInt _ _ (by omega) (by decide), Int.mul_one, Int.mul_one]
 congr 1
 rw [← hn] at e0
 have e2 : (n : Int) * (b.den : Int) = ((b.den * n : Nat) : Int) := by rw [Int.natCast_mul, Int.mul_comm]
 rw [e2]
 generalize b.num.natAbs % b.den = M at *
 generalize b.den * n = N at *
 omega
theorem sz_le_nat {a b L : Nat} (h : a ≤ b) (hs : Sz (b : Int) L) : Sz (a : Int) L := ⟨Nat.lt_of_le_of_lt (by rw [Int.natAbs_natCast, Int.natAbs_natCast]; exact h) hs.lt⟩
theorem sz_abs {x : Int} {L : Nat} (h : Sz x L) : Sz ((x.natAbs : Nat) : Int) L := ⟨by rw [Int.natAbs_natCast]; exact h.lt⟩
theorem RSz.NF' {a : Rat} (h : RSz a 40) : RSz (NF a) 40 := RSz.of (by decide) (sz_le_nat (Nat.div_le_self _ _) (sz_abs h.num)) (Sz.one.mono (by decide))
theorem RSz.NF1 {a : Rat} (h : RSz a 40) (h0 : a.num.natAbs % a.den ≠ 0) : RSz (NF a + 1) 40 := by
 rw [NF_one]
 refine RSz.of (by decide) (sz_le_nat ?_ (sz_abs h.num)) (Sz.one.mono (by decide))
 have e0 := Nat.div_add_mod a.num.natAbs a.den
 have e1 : a.num.natAbs / a.den ≤ a.den * (a.num.natAbs / a.den) := Nat.le_mul_of_pos_left _ a.den_pos
 unfold nF
 omega
theorem inv_ne {t : Rat} (h : (1 / t).num ≠ 0) : t.num ≠ 0 := by
 intro h0
 have : t = 0 := Rat.num_eq_zero.1 h0
 rw [this] at h
 exact h (by rw [Rat.div_def, Rat.inv_zero, Rat.mul_zero]; rfl)
theorem RSz.sub_fl {b : Rat} {n : Nat} (hb : 0 < b.num) (hn : n = b.num.natAbs / b.den) (h : RSz b 40) : RSz (b - Rat.divInt (n : Int) 1) 40 := by
 rw [sub_floor hb hn]
 exact RSz.of (by have := b.den_pos; omega) (sz_le_nat (Nat.le_of_lt (Nat.mod_lt _ b.den_pos)) h.den) h.den
theorem RSz.inv_fl {b x : Rat} (h : RSz b 40) (h1 : x.num = b.den) (h2 : x.den = b.num.natAbs % b.den) : RSz x 40 := ⟨by rw [h1]; exact h.den, by rw [h2]; exact sz_le_nat (Nat.le_of_lt (Nat.mod_lt _ b.den_pos)) h.den⟩
theorem RSz.inv' {x : Rat} (h : RSz x 40) (h0 : 0 < x.num) : RSz (1 / x) 40 := by
 conv => arg 1; arg 2; rw [← Rat.num_divInt_den x]
 rw [one_over]
 exact RSz.of (by omega) h.den h.num
theorem UpTo.spos9 {a b : Rat} (h : UpTo a b) : 0 < (sQ a b).num := by
 obtain ⟨p1, _⟩ := h.parts
 rw [p1]
 have := h.simp.xpos h.nat.1
 omega
theorem sQ_next9 {a b : Rat} (h0 : a.num.natAbs % a.den ≠ 0) (h6 : nF a < b.num.natAbs / b.den) : sQ a b = NF a + 1 := by
 rw [show (1 : Rat) = Rat.divInt 1 1 by decide]
 exact sQ_next h0 h6
theorem sQ_int9 {a b : Rat} (h0 : a.num.natAbs % a.den = 0) : sQ a b = NF a := sQ_int h0
end Go.Proofs.YtfnafgjnimfmjaaGreatDoor
