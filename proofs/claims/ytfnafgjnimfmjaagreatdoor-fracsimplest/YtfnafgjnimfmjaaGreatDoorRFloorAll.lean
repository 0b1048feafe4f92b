/-
  Proved here: what Add and Sub of the document's layer 3 answer.
  Proved here: what Text of the document's layer 3 answers.
  Proved here: what Parse of package frac answers of any text (of at most 400 bytes).
  Proved here: what Sub, Norm and Div of the document's layer 3 answer, and Norm of package frac.
  Proved here: what Div of the document's layer 3 answers.
  Proved here: what Quo of the document's layer 2 answers.
  Proved here: what Floor of the document's layer 2 answers.
-/
import Derived.Test.YtfnafgjnimfmjaaGreatDoorSimpQAll
import Derived.Deep.DeepCutAuto
import Derived.Test.YtfnafgjnimfmjaaGreatDoorTrimLAll
import Derived.Test.YtfnafgjnimfmjaaGreatDoorLate
namespace Go.Proofs.YtfnafgjnimfmjaaGreatDoor
set_option maxRecDepth 100000
set_option maxHeartbeats 12800000
open Go.RowKit
attribute [local go_sem ↓] Go.wp_at_zero Go.wp_at_succ

theorem add3 {p r : Int} {q k L M : Nat} (na : Bool) (ao aO : Option Addr) (al ac aL aC : Nat) (nb : Bool) (bo bO : Option Addr) (bl bc bL bC : Nat) {w : World} (ia : IB w (.agg #[.bool na, .slice ao al ac]) p L) (da : NB w (.slice aO aL aC) (q : Int) L) (h1L : 1 ≤ L) (ib : IB w (.agg #[.bool nb, .slice bo bl bc]) r M) (db : NB w (.slice bO bL bC) (k : Int) M) (h1M : 1 ≤ M) (hL : L + M ≤ 1400) : Calls Tryz.prog 62 #[.agg #[.bool na, .slice ao al ac, .slice aO aL aC], .agg #[.bool nb, .slice bo bl bc, .slice bO bL bC]] w fun e w' => REnd w (rq p q + rq r k) e w' := by
 obtain ⟨Z, hZ⟩ : ∃ Z, Z = rq p q + rq r k := ⟨_, rfl⟩
 rw [← hZ]
 have HZ : Hid (Rat.divInt (p * und k + r * und q) (und q * und k) = Z) := by show _ = _; rw [hZ]; exact rq_add p r q k
 clear hZ
 obtain ⟨W1, hW1⟩ : ∃ W1, W1 = ((w.alloc (.cells #[.bool na, .slice ao al ac, .slice aO aL aC] 27)).alloc (.cells #[.bool nb, .slice bo bl bc, .slice bO bL bC] 27)).alloc (.cells #[.bool false, .slice none 0 0, .slice none 0 0] 27) := ⟨_, rfl⟩
 have qa : QCell W1 (w.heap.size) na (.slice ao al ac) (.slice aO aL aC) := by rw [hW1]; exact (qcell_step (qcell_step (qcell_new _ (by simp))))
 have qb : QCell W1 (w.heap.size + 1) nb (.slice bo bl bc) (.slice bO bL bC) := by rw [hW1]; exact (qcell_step (qcell_new _ (by simp)))
 have qR : QCell W1 (w.heap.size + 1 + 1) false (.slice none 0 0) (.slice none 0 0) := by rw [hW1]; exact (qcell_new _ (by simp))
 have hb : Below w.heap.size w W1 := by rw [hW1]; exact bstep (bstep (belowA w _) (belowA _ _)) (belowA _ _)
 have hsz : w.heap.size + 1 + 1 < W1.heap.size := by rw [hW1]; simp
 replace db := db.below hb
 replace da := da.below hb
 replace ia := ia.below hb
 replace ib := ib.below hb
 have HW1 : Hid (W1 = ((w.alloc (.cells #[.bool na, .slice ao al ac, .slice aO aL aC] 27)).alloc (.cells #[.bool nb, .slice bo bl bc, .slice bO bL bC] 27)).alloc (.cells #[.bool false, .slice none 0 0, .slice none 0 0] 27)) := hW1
 clear hW1
 go_enter Tryz.func62, Tryz.ntmps62
 go_wp2_with fail
 rw [← HW1.out]
 clear HW1
 obtain ⟨g, hg⟩ : ∃ g, g = w.heap.size := ⟨_, rfl⟩
 rw [← hg] at qa qb qR hsz ⊢
 have HG : Hid (g = w.heap.size) := hg
 clear hg
 go_cut [5] (fun t wx => ∃ vx nx xo xl xc, t = .pointer (some ⟨vx, 0, none⟩) ∧ ICell wx vx nx (.slice xo xl xc) ∧ IB wx (.agg #[.bool nx, .slice xo xl xc]) (p * und k) (L + M) ∧ Below W1.heap.size W1 wx ∧ W1.heap.size ≤ vx)
 case first =>
  refine region_late [(1, fun w' => w'.cell? ⟨g, 0, none⟩ = some (.bool na) ∧ w'.cell? ⟨g, 1, none⟩ = some (.slice ao al ac)), (2, fun w' => w'.cell? ⟨g + 1, 0, none⟩ = some (.bool nb) ∧ w'.cell? ⟨g + 1, 1, none⟩ = some (.slice bo bl bc) ∧ w'.cell? ⟨g + 1, 2, none⟩ = some (.slice bO bL bC))] (by kernel_rfl) ?_
  have hHeld : AllL W1.drew [(1, fun w' => w'.cell? ⟨g, 0, none⟩ = some (.bool na) ∧ w'.cell? ⟨g, 1, none⟩ = some (.slice ao al ac)), (2, fun w' => w'.cell? ⟨g + 1, 0, none⟩ = some (.bool nb) ∧ w'.cell? ⟨g + 1, 1, none⟩ = some (.slice bo bl bc) ∧ w'.cell? ⟨g + 1, 2, none⟩ = some (.slice bO bL bC))] := ⟨⟨(show QCell W1.drew (g) na (.slice ao al ac) (.slice aO aL aC) from qa).cells.1, (show QCell W1.drew (g) na (.slice ao al ac) (.slice aO aL aC) from qa).cells.2.1⟩, (show QCell W1.drew (g + 1) nb (.slice bo bl bc) (.slice bO bL bC) from qb).cells, trivial⟩
  refine late_fr 0 (v := .pointer (some ⟨g, 0, none⟩)) rfl (Or.inl ⟨by rfl, ?_⟩) hHeld ?_
  · (intro u _; go_simp)
  try simp only [pu1, pu2, pu3, pu4]
  refine late_tk 1 (v := .agg #[.bool na, .slice ao al ac]) rfl (List.Mem.head _) (Or.inl ⟨by rfl, ?_⟩) hHeld ?_
  · (intro u hu; (try dsimp only at hu); go_split_ands; go_simp)
  try simp only [pu1, pu2, pu3, pu4]
  refine late_tk 2 (v := .agg #[.bool nb, .slice bo bl bc, .slice bO bL bC]) rfl (List.Mem.tail _ (List.Mem.head _)) (Or.inl ⟨by rfl, ?_⟩) hHeld ?_
  · (intro u hu; (try dsimp only at hu); go_split_ands; go_simp)
  try simp only [pu1, pu2, pu3, pu4]
  refine late_two 3 6 (by kernel_rfl) rfl rfl (fun K hK => ?_) (fun K hK => ?_)
  ·
   go_simp
   refine (den3 (db.below (below_drew' _)) ⟨h1M, by omega⟩).mono ?_
   rintro e w2 ⟨m10o, m10l, m10c, rfl, im10, b2⟩
   have B2 : Below W1.heap.size W1 w2 := bstep (below_drew' _) b2
   replace hHeld := AllL.mv (w' := w2) hHeld ⟨⟨(qa.below B2).cells.1, (qa.below B2).cells.2.1⟩, (qb.below B2).cells, trivial⟩
   go_wp2_with fail
   refine hK.out _ _ (AllL.kept hHeld) ?_
   clear hK K
   try simp only [pu1, pu2, pu3, pu4]
   refine late_two 4 6 (by kernel_rfl) rfl rfl (fun K hK => ?_) (fun K hK => ?_)
   ·
    go_simp
    have im11 := (im10).ib
    refine (whole3 _ _ _ _).mono ?_
    rintro e w3 ⟨rfl, b3⟩
    replace im11 := im11.below b3
    have B3 : Below W1.heap.size W1 w3 := bstep B2 b3
    replace hHeld := AllL.mv (w' := w3) hHeld ⟨⟨(qa.below B3).cells.1, (qa.below B3).cells.2.1⟩, (qb.below B3).cells, trivial⟩
    go_wp2_with fail
    refine hK.out _ _ (AllL.kept hHeld) ?_
    clear hK K
    try simp only [pu1, pu2, pu3, pu4]
    refine late_two 5 6 (by kernel_rfl) rfl rfl (fun K hK => ?_) (fun K hK => ?_)
    ·
     go_simp
     have hsz9 := ((((ia.below (below_drew' _)).below b2).below b3)).sz.mul (im11).sz
     have hq := rmulE (((ia.below (below_drew' _)).below b2).below b3) im11 (by omega)
     refine hq.mono ?_
     rintro e w4 ⟨v, rfl, ⟨m, rfl, hm⟩, b4⟩
     clear hq
     obtain ⟨mo, ml, mc, rfl⟩ := hm.sl
     have B4 : Below W1.heap.size W1 w4 := bstep B3 b4
     replace hHeld := AllL.mv (w' := w4) hHeld ⟨⟨(qa.below B4).cells.1, (qa.below B4).cells.2.1⟩, (qb.below B4).cells, trivial⟩
     go_wp2_with fail
     refine hK.out _ _ (AllL.kept hHeld) ?_
     clear hK K
     try simp only [pu1, pu2, pu3, pu4]
     refine late_st 6 rfl (fun K hK => ?_)
     go_simp
     obtain ⟨w5, hw5⟩ : ∃ u, u = w4.alloc (.cells #[.bool false, .slice none 0 0] 25) := ⟨_, rfl⟩
     have hp : ICell w5 w4.heap.size false (.slice none 0 0) := by rw [hw5]; exact icell_new _ rfl
     have b5 : Below w4.heap.size w4 w5 := by rw [hw5]; exact belowA _ _
     have B5 : Below W1.heap.size W1 w5 := bstep B4 b5
     rw [← hw5]
     obtain ⟨vx, hpv⟩ : ∃ v, v = w4.heap.size := ⟨_, rfl⟩
     have HPV : W1.heap.size ≤ vx := by rw [hpv]; exact B4.size
     have HPW : vx < w5.heap.size := by rw [hpv]; exact (Array.getElem?_eq_some_iff.1 hp).1
     have hne : (Value.slice mo ml mc).ownBlock = none ∨ (Value.slice mo ml mc).ownBlock ≠ some vx := (by rcases hu : (Value.slice mo ml mc).ownBlock with _ | k; exact .inl rfl; exact .inr fun e => by have h1 := (hm.block k hu).2; have h2 := Option.some.inj e; omega)
     replace hm := hm.below b5
     rw [← hpv] at hp ⊢
     clear hpv hw5
     replace hHeld := AllL.mv (w' := w5) hHeld ⟨⟨(qa.below B5).cells.1, (qa.below B5).cells.2.1⟩, (qb.below B5).cells, trivial⟩
     refine hK.out _ _ (AllL.kept hHeld) ?_
     clear hK K
     try simp only [pu1, pu2, pu3, pu4]
     have HIB : Hid (ICell ((w5.setCell ⟨vx, 0, none⟩ (.bool (decide (p * und k < 0)))).setCell ⟨vx, 1, none⟩ (.slice mo ml mc)) vx (decide (p * und k < 0)) (.slice mo ml mc) ∧ IB ((w5.setCell ⟨vx, 0, none⟩ (.bool (decide (p * und k < 0)))).setCell ⟨vx, 1, none⟩ (.slice mo ml mc)) (.agg #[.bool (decide (p * und k < 0)), .slice mo ml mc]) (p * und k) (L + M) ∧ Below W1.heap.size W1 ((w5.setCell ⟨vx, 0, none⟩ (.bool (decide (p * und k < 0)))).setCell ⟨vx, 1, none⟩ (.slice mo ml mc))) := ⟨hp.write _ _, IOwn.ib ⟨_, rfl, (hm.other _ hne).other _ hne⟩ hsz9.len, (B5.setCell (p := ⟨vx, 0, none⟩) HPV _).setCell (p := ⟨vx, 1, none⟩) HPV _⟩
     have HVX : Hid (W1.heap.size ≤ vx) := HPV
     obtain ⟨y0, y1⟩ := hp.cells
     have f0 := hp.thaw 0
     have f1 := hp.thaw 1
     clear hsz9 hne hm hp HPW
     generalize decide (p * und k < 0) = bbn at *
     refine late_st 7 rfl (fun K hK => ?_)
     go_simp
     refine hK.out _ _ ⟨kpt 5, kpt 3, trivial⟩ ?_
     clear hK K
     try simp only [pu1, pu2, pu3, pu4]
     refine late_done (by kernel_rfl) ?_ _
     clear hHeld y0 y1 f0 f1
     go_wp2_with fail
     go_meet
     exact ⟨_, _, _, _, _, rfl, HIB.out.1, HIB.out.2.1, HIB.out.2.2, HVX.out⟩
    ·
     go_simp
     obtain ⟨w7, hw7⟩ : ∃ u, u = w3.alloc (.cells #[.bool false, .slice none 0 0] 25) := ⟨_, rfl⟩
     have hp : ICell w7 w3.heap.size false (.slice none 0 0) := by rw [hw7]; exact icell_new _ rfl
     have b7 : Below w3.heap.size w3 w7 := by rw [hw7]; exact belowA _ _
     have B7 : Below W1.heap.size W1 w7 := bstep B3 b7
     rw [← hw7]
     obtain ⟨vx, hpv⟩ : ∃ v, v = w3.heap.size := ⟨_, rfl⟩
     have HPV : W1.heap.size ≤ vx := by rw [hpv]; exact B3.size
     have HPW : vx < w7.heap.size := by rw [hpv]; exact (Array.getElem?_eq_some_iff.1 hp).1
     rw [← hpv] at hp ⊢
     clear hpv hw7
     replace hHeld := AllL.mv (w' := w7) hHeld ⟨⟨(qa.below B7).cells.1, (qa.below B7).cells.2.1⟩, (qb.below B7).cells, trivial⟩
     refine hK.out _ _ (AllL.kept hHeld) ?_
     clear hK K
     try simp only [pu1, pu2, pu3, pu4]
     refine late_st 5 rfl (fun K hK => ?_)
     go_simp
     have hsz9 := (((((ia.below (below_drew' _)).below b2).below b3).below b7)).sz.mul ((im11.below b7)).sz
     have hq := rmulE ((((ia.below (below_drew' _)).below b2).below b3).below b7) (im11.below b7) (by omega)
     refine hq.mono ?_
     rintro e w8 ⟨v, rfl, ⟨m, rfl, hm⟩, b8⟩
     clear hq
     obtain ⟨mo, ml, mc, rfl⟩ := hm.sl
     have hne : (Value.slice mo ml mc).ownBlock = none ∨ (Value.slice mo ml mc).ownBlock ≠ some vx := (by rcases hu : (Value.slice mo ml mc).ownBlock with _ | k; exact .inl rfl; exact .inr fun e => by have h1 := (hm.block k hu).1; have h2 := Option.some.inj e; omega)
     have B8 : Below W1.heap.size W1 w8 := bstep B7 b8
     replace hHeld := AllL.mv (w' := w8) hHeld ⟨⟨(qa.below B8).cells.1, (qa.below B8).cells.2.1⟩, (qb.below B8).cells, trivial⟩
     go_wp2_with fail
     refine hK.out _ _ (AllL.kept hHeld) ?_
     clear hK K
     try simp only [pu1, pu2, pu3, pu4]
     replace hp := hp.below b8
     replace HPW : vx < w8.heap.size := Nat.lt_of_lt_of_le HPW b8.size
     have HIB : Hid (ICell ((w8.setCell ⟨vx, 0, none⟩ (.bool (decide (p * und k < 0)))).setCell ⟨vx, 1, none⟩ (.slice mo ml mc)) vx (decide (p * und k < 0)) (.slice mo ml mc) ∧ IB ((w8.setCell ⟨vx, 0, none⟩ (.bool (decide (p * und k < 0)))).setCell ⟨vx, 1, none⟩ (.slice mo ml mc)) (.agg #[.bool (decide (p * und k < 0)), .slice mo ml mc]) (p * und k) (L + M) ∧ Below W1.heap.size W1 ((w8.setCell ⟨vx, 0, none⟩ (.bool (decide (p * und k < 0)))).setCell ⟨vx, 1, none⟩ (.slice mo ml mc))) := ⟨hp.write _ _, IOwn.ib ⟨_, rfl, (hm.other _ hne).other _ hne⟩ hsz9.len, (B8.setCell (p := ⟨vx, 0, none⟩) HPV _).setCell (p := ⟨vx, 1, none⟩) HPV _⟩
     have HVX : Hid (W1.heap.size ≤ vx) := HPV
     obtain ⟨y0, y1⟩ := hp.cells
     have f0 := hp.thaw 0
     have f1 := hp.thaw 1
     clear hsz9 hne hm hp HPW
     generalize decide (p * und k < 0) = bbn at *
     refine late_st 7 rfl (fun K hK => ?_)
     go_simp
     refine hK.out _ _ ⟨kpt 5, kpt 3, trivial⟩ ?_
     clear hK K
     try simp only [pu1, pu2, pu3, pu4]
     refine late_done (by kernel_rfl) ?_ _
     clear hHeld y0 y1 f0 f1
     go_wp2_with fail
     go_meet
     exact ⟨_, _, _, _, _, rfl, HIB.out.1, HIB.out.2.1, HIB.out.2.2, HVX.out⟩
   ·
    go_simp
    obtain ⟨w10, hw10⟩ : ∃ u, u = w2.alloc (.cells #[.bool false, .slice none 0 0] 25) := ⟨_, rfl⟩
    have hp : ICell w10 w2.heap.size false (.slice none 0 0) := by rw [hw10]; exact icell_new _ rfl
    have b10 : Below w2.heap.size w2 w10 := by rw [hw10]; exact belowA _ _
    have B10 : Below W1.heap.size W1 w10 := bstep B2 b10
    rw [← hw10]
    obtain ⟨vx, hpv⟩ : ∃ v, v = w2.heap.size := ⟨_, rfl⟩
    have HPV : W1.heap.size ≤ vx := by rw [hpv]; exact B2.size
    have HPW : vx < w10.heap.size := by rw [hpv]; exact (Array.getElem?_eq_some_iff.1 hp).1
    rw [← hpv] at hp ⊢
    clear hpv hw10
    replace hHeld := AllL.mv (w' := w10) hHeld ⟨⟨(qa.below B10).cells.1, (qa.below B10).cells.2.1⟩, (qb.below B10).cells, trivial⟩
    refine hK.out _ _ (AllL.kept hHeld) ?_
    clear hK K
    try simp only [pu1, pu2, pu3, pu4]
    refine late_st 4 rfl (fun K hK => ?_)
    go_simp
    have im11 := ((im10.below b10)).ib
    refine (whole3 _ _ _ _).mono ?_
    rintro e w11 ⟨rfl, b11⟩
    replace im11 := im11.below b11
    have B11 : Below W1.heap.size W1 w11 := bstep B10 b11
    replace hHeld := AllL.mv (w' := w11) hHeld ⟨⟨(qa.below B11).cells.1, (qa.below B11).cells.2.1⟩, (qb.below B11).cells, trivial⟩
    go_wp2_with fail
    refine hK.out _ _ (AllL.kept hHeld) ?_
    clear hK K
    try simp only [pu1, pu2, pu3, pu4]
    replace hp := hp.below b11
    replace HPW : vx < w11.heap.size := Nat.lt_of_lt_of_le HPW b11.size
    refine late_st 5 rfl (fun K hK => ?_)
    go_simp
    have hsz9 := (((((ia.below (below_drew' _)).below b2).below b10).below b11)).sz.mul (im11).sz
    have hq := rmulE ((((ia.below (below_drew' _)).below b2).below b10).below b11) im11 (by omega)
    refine hq.mono ?_
    rintro e w12 ⟨v, rfl, ⟨m, rfl, hm⟩, b12⟩
    clear hq
    obtain ⟨mo, ml, mc, rfl⟩ := hm.sl
    have hne : (Value.slice mo ml mc).ownBlock = none ∨ (Value.slice mo ml mc).ownBlock ≠ some vx := (by rcases hu : (Value.slice mo ml mc).ownBlock with _ | k; exact .inl rfl; exact .inr fun e => by have h1 := (hm.block k hu).1; have h2 := Option.some.inj e; omega)
    have B12 : Below W1.heap.size W1 w12 := bstep B11 b12
    replace hHeld := AllL.mv (w' := w12) hHeld ⟨⟨(qa.below B12).cells.1, (qa.below B12).cells.2.1⟩, (qb.below B12).cells, trivial⟩
    go_wp2_with fail
    refine hK.out _ _ (AllL.kept hHeld) ?_
    clear hK K
    try simp only [pu1, pu2, pu3, pu4]
    replace hp := hp.below b12
    replace HPW : vx < w12.heap.size := Nat.lt_of_lt_of_le HPW b12.size
    have HIB : Hid (ICell ((w12.setCell ⟨vx, 0, none⟩ (.bool (decide (p * und k < 0)))).setCell ⟨vx, 1, none⟩ (.slice mo ml mc)) vx (decide (p * und k < 0)) (.slice mo ml mc) ∧ IB ((w12.setCell ⟨vx, 0, none⟩ (.bool (decide (p * und k < 0)))).setCell ⟨vx, 1, none⟩ (.slice mo ml mc)) (.agg #[.bool (decide (p * und k < 0)), .slice mo ml mc]) (p * und k) (L + M) ∧ Below W1.heap.size W1 ((w12.setCell ⟨vx, 0, none⟩ (.bool (decide (p * und k < 0)))).setCell ⟨vx, 1, none⟩ (.slice mo ml mc))) := ⟨hp.write _ _, IOwn.ib ⟨_, rfl, (hm.other _ hne).other _ hne⟩ hsz9.len, (B12.setCell (p := ⟨vx, 0, none⟩) HPV _).setCell (p := ⟨vx, 1, none⟩) HPV _⟩
    have HVX : Hid (W1.heap.size ≤ vx) := HPV
    obtain ⟨y0, y1⟩ := hp.cells
    have f0 := hp.thaw 0
    have f1 := hp.thaw 1
    clear hsz9 hne hm hp HPW
    generalize decide (p * und k < 0) = bbn at *
    refine late_st 7 rfl (fun K hK => ?_)
    go_simp
    refine hK.out _ _ ⟨kpt 5, kpt 3, trivial⟩ ?_
    clear hK K
    try simp only [pu1, pu2, pu3, pu4]
    refine late_done (by kernel_rfl) ?_ _
    clear hHeld y0 y1 f0 f1
    go_wp2_with fail
    go_meet
    exact ⟨_, _, _, _, _, rfl, HIB.out.1, HIB.out.2.1, HIB.out.2.2, HVX.out⟩
  ·
   go_simp
   obtain ⟨w14, hw14⟩ : ∃ u, u = (W1.alloc (.cells #[.bool false, .slice none 0 0] 25)).drew := ⟨_, rfl⟩
   have hp : ICell w14 W1.heap.size false (.slice none 0 0) := by rw [hw14]; exact icell_new _ rfl
   have b14 : Below W1.drew.heap.size W1.drew w14 := by rw [hw14]; exact belowA W1.drew _
   have B14 : Below W1.heap.size W1 w14 := bstep (below_drew' _) b14
   rw [← hw14]
   obtain ⟨vx, hpv⟩ : ∃ v, v = W1.heap.size := ⟨_, rfl⟩
   have HPV : W1.heap.size ≤ vx := by rw [hpv]; exact Nat.le_refl _
   have HPW : vx < w14.heap.size := by rw [hpv]; exact (Array.getElem?_eq_some_iff.1 hp).1
   rw [← hpv] at hp ⊢
   clear hpv hw14
   replace hHeld := AllL.mv (w' := w14) hHeld ⟨⟨(qa.below B14).cells.1, (qa.below B14).cells.2.1⟩, (qb.below B14).cells, trivial⟩
   refine hK.out _ _ (AllL.kept hHeld) ?_
   clear hK K
   try simp only [pu1, pu2, pu3, pu4]
   refine late_st 3 rfl (fun K hK => ?_)
   go_simp
   refine (den3 ((db.below (below_drew' _)).below b14) ⟨h1M, by omega⟩).mono ?_
   rintro e w15 ⟨m10o, m10l, m10c, rfl, im10, b15⟩
   have B15 : Below W1.heap.size W1 w15 := bstep B14 b15
   replace hHeld := AllL.mv (w' := w15) hHeld ⟨⟨(qa.below B15).cells.1, (qa.below B15).cells.2.1⟩, (qb.below B15).cells, trivial⟩
   go_wp2_with fail
   refine hK.out _ _ (AllL.kept hHeld) ?_
   clear hK K
   try simp only [pu1, pu2, pu3, pu4]
   replace hp := hp.below b15
   replace HPW : vx < w15.heap.size := Nat.lt_of_lt_of_le HPW b15.size
   refine late_st 4 rfl (fun K hK => ?_)
   go_simp
   have im11 := (im10).ib
   refine (whole3 _ _ _ _).mono ?_
   rintro e w16 ⟨rfl, b16⟩
   replace im11 := im11.below b16
   have B16 : Below W1.heap.size W1 w16 := bstep B15 b16
   replace hHeld := AllL.mv (w' := w16) hHeld ⟨⟨(qa.below B16).cells.1, (qa.below B16).cells.2.1⟩, (qb.below B16).cells, trivial⟩
   go_wp2_with fail
   refine hK.out _ _ (AllL.kept hHeld) ?_
   clear hK K
   try simp only [pu1, pu2, pu3, pu4]
   replace hp := hp.below b16
   replace HPW : vx < w16.heap.size := Nat.lt_of_lt_of_le HPW b16.size
   refine late_st 5 rfl (fun K hK => ?_)
   go_simp
   have hsz9 := (((((ia.below (below_drew' _)).below b14).below b15).below b16)).sz.mul (im11).sz
   have hq := rmulE ((((ia.below (below_drew' _)).below b14).below b15).below b16) im11 (by omega)
   refine hq.mono ?_
   rintro e w17 ⟨v, rfl, ⟨m, rfl, hm⟩, b17⟩
   clear hq
   obtain ⟨mo, ml, mc, rfl⟩ := hm.sl
   have hne : (Value.slice mo ml mc).ownBlock = none ∨ (Value.slice mo ml mc).ownBlock ≠ some vx := (by rcases hu : (Value.slice mo ml mc).ownBlock with _ | k; exact .inl rfl; exact .inr fun e => by have h1 := (hm.block k hu).1; have h2 := Option.some.inj e; omega)
   have B17 : Below W1.heap.size W1 w17 := bstep B16 b17
   replace hHeld := AllL.mv (w' := w17) hHeld ⟨⟨(qa.below B17).cells.1, (qa.below B17).cells.2.1⟩, (qb.below B17).cells, trivial⟩
   go_wp2_with fail
   refine hK.out _ _ (AllL.kept hHeld) ?_
   clear hK K
   try simp only [pu1, pu2, pu3, pu4]
   replace hp := hp.below b17
   replace HPW : vx < w17.heap.size := Nat.lt_of_lt_of_le HPW b17.size
   have HIB : Hid (ICell ((w17.setCell ⟨vx, 0, none⟩ (.bool (decide (p * und k < 0)))).setCell ⟨vx, 1, none⟩ (.slice mo ml mc)) vx (decide (p * und k < 0)) (.slice mo ml mc) ∧ IB ((w17.setCell ⟨vx, 0, none⟩ (.bool (decide (p * und k < 0)))).setCell ⟨vx, 1, none⟩ (.slice mo ml mc)) (.agg #[.bool (decide (p * und k < 0)), .slice mo ml mc]) (p * und k) (L + M) ∧ Below W1.heap.size W1 ((w17.setCell ⟨vx, 0, none⟩ (.bool (decide (p * und k < 0)))).setCell ⟨vx, 1, none⟩ (.slice mo ml mc))) := ⟨hp.write _ _, IOwn.ib ⟨_, rfl, (hm.other _ hne).other _ hne⟩ hsz9.len, (B17.setCell (p := ⟨vx, 0, none⟩) HPV _).setCell (p := ⟨vx, 1, none⟩) HPV _⟩
   have HVX : Hid (W1.heap.size ≤ vx) := HPV
   obtain ⟨y0, y1⟩ := hp.cells
   have f0 := hp.thaw 0
   have f1 := hp.thaw 1
   clear hsz9 hne hm hp HPW
   generalize decide (p * und k < 0) = bbn at *
   refine late_st 7 rfl (fun K hK => ?_)
   go_simp
   refine hK.out _ _ ⟨kpt 5, kpt 3, trivial⟩ ?_
   clear hK K
   try simp only [pu1, pu2, pu3, pu4]
   refine late_done (by kernel_rfl) ?_ _
   clear hHeld y0 y1 f0 f1
   go_wp2_with fail
   go_meet
   exact ⟨_, _, _, _, _, rfl, HIB.out.1, HIB.out.2.1, HIB.out.2.2, HVX.out⟩
 case rest =>
  obtain ⟨wx, hwwx⟩ : ∃ W, W = wc := ⟨_, rfl⟩
  rw [← hwwx] at hcut ⊢
  clear hwwx
  obtain ⟨vx, nx, xo, xl, xc, rfl, qx, ix, b, hvx⟩ := hcut
  replace ia := ia.below b
  replace ib := ib.below b
  replace da := da.below b
  replace db := db.below b
  replace qa := qa.below b
  replace qb := qb.below b
  replace qR := qR.below b
  replace hb := bstep hb b
  replace hsz := Nat.lt_of_lt_of_le hsz b.size
  clear b
  obtain ⟨cqa0, cqa1, cqa2⟩ := qa.cells
  obtain ⟨cqb0, cqb1, cqb2⟩ := qb.cells
  obtain ⟨cqR0, cqR1, cqR2⟩ := qR.cells
  obtain ⟨cqx0, cqx1⟩ := qx.cells
  go_wp2_with fail
  clear cqa0 cqa1 cqa2 cqb0 cqb1 cqb2 cqR0 cqR1 cqR2 cqx0 cqx1
  go_cut [6] (fun t wy => ∃ vy ny yo yl yc, t = .pointer (some ⟨vy, 0, none⟩) ∧ ICell wy vy ny (.slice yo yl yc) ∧ IB wy (.agg #[.bool ny, .slice yo yl yc]) (r * und q) (M + L) ∧ Below wx.heap.size wx wy ∧ wx.heap.size ≤ vy)
  case first =>
   refine region_late [(1, fun w' => w'.cell? ⟨g + 1, 0, none⟩ = some (.bool nb) ∧ w'.cell? ⟨g + 1, 1, none⟩ = some (.slice bo bl bc)), (2, fun w' => w'.cell? ⟨g, 0, none⟩ = some (.bool na) ∧ w'.cell? ⟨g, 1, none⟩ = some (.slice ao al ac) ∧ w'.cell? ⟨g, 2, none⟩ = some (.slice aO aL aC))] (by kernel_rfl) ?_
   have hHeld : AllL wx.drew [(1, fun w' => w'.cell? ⟨g + 1, 0, none⟩ = some (.bool nb) ∧ w'.cell? ⟨g + 1, 1, none⟩ = some (.slice bo bl bc)), (2, fun w' => w'.cell? ⟨g, 0, none⟩ = some (.bool na) ∧ w'.cell? ⟨g, 1, none⟩ = some (.slice ao al ac) ∧ w'.cell? ⟨g, 2, none⟩ = some (.slice aO aL aC))] := ⟨⟨(show QCell wx.drew (g + 1) nb (.slice bo bl bc) (.slice bO bL bC) from qb).cells.1, (show QCell wx.drew (g + 1) nb (.slice bo bl bc) (.slice bO bL bC) from qb).cells.2.1⟩, (show QCell wx.drew (g) na (.slice ao al ac) (.slice aO aL aC) from qa).cells, trivial⟩
   refine late_fr 0 (v := .pointer (some ⟨g + 1, 0, none⟩)) rfl (Or.inl ⟨by rfl, ?_⟩) hHeld ?_
   · (intro u _; go_simp)
   try simp only [pu1, pu2, pu3, pu4]
   refine late_tk 1 (v := .agg #[.bool nb, .slice bo bl bc]) rfl (List.Mem.head _) (Or.inl ⟨by rfl, ?_⟩) hHeld ?_
   · (intro u hu; (try dsimp only at hu); go_split_ands; go_simp)
   try simp only [pu1, pu2, pu3, pu4]
   refine late_tk 2 (v := .agg #[.bool na, .slice ao al ac, .slice aO aL aC]) rfl (List.Mem.tail _ (List.Mem.head _)) (Or.inl ⟨by rfl, ?_⟩) hHeld ?_
   · (intro u hu; (try dsimp only at hu); go_split_ands; go_simp)
   try simp only [pu1, pu2, pu3, pu4]
   refine late_two 3 6 (by kernel_rfl) rfl rfl (fun K hK => ?_) (fun K hK => ?_)
   ·
    go_simp
    refine (den3 (da.below (below_drew' _)) ⟨h1L, by omega⟩).mono ?_
    rintro e w19 ⟨m16o, m16l, m16c, rfl, im16, b19⟩
    have B19 : Below wx.heap.size wx w19 := bstep (below_drew' _) b19
    replace hHeld := AllL.mv (w' := w19) hHeld ⟨⟨(qb.below B19).cells.1, (qb.below B19).cells.2.1⟩, (qa.below B19).cells, trivial⟩
    go_wp2_with fail
    refine hK.out _ _ (AllL.kept hHeld) ?_
    clear hK K
    try simp only [pu1, pu2, pu3, pu4]
    refine late_two 4 6 (by kernel_rfl) rfl rfl (fun K hK => ?_) (fun K hK => ?_)
    ·
     go_simp
     have im17 := (im16).ib
     refine (whole3 _ _ _ _).mono ?_
     rintro e w20 ⟨rfl, b20⟩
     replace im17 := im17.below b20
     have B20 : Below wx.heap.size wx w20 := bstep B19 b20
     replace hHeld := AllL.mv (w' := w20) hHeld ⟨⟨(qb.below B20).cells.1, (qb.below B20).cells.2.1⟩, (qa.below B20).cells, trivial⟩
     go_wp2_with fail
     refine hK.out _ _ (AllL.kept hHeld) ?_
     clear hK K
     try simp only [pu1, pu2, pu3, pu4]
     refine late_two 5 6 (by kernel_rfl) rfl rfl (fun K hK => ?_) (fun K hK => ?_)
     ·
      go_simp
      have hsz9 := ((((ib.below (below_drew' _)).below b19).below b20)).sz.mul (im17).sz
      have hq := rmulE (((ib.below (below_drew' _)).below b19).below b20) im17 (by omega)
      refine hq.mono ?_
      rintro e w21 ⟨v, rfl, ⟨m, rfl, hm⟩, b21⟩
      clear hq
      obtain ⟨mo, ml, mc, rfl⟩ := hm.sl
      have B21 : Below wx.heap.size wx w21 := bstep B20 b21
      replace hHeld := AllL.mv (w' := w21) hHeld ⟨⟨(qb.below B21).cells.1, (qb.below B21).cells.2.1⟩, (qa.below B21).cells, trivial⟩
      go_wp2_with fail
      refine hK.out _ _ (AllL.kept hHeld) ?_
      clear hK K
      try simp only [pu1, pu2, pu3, pu4]
      refine late_st 6 rfl (fun K hK => ?_)
      go_simp
      obtain ⟨w22, hw22⟩ : ∃ u, u = w21.alloc (.cells #[.bool false, .slice none 0 0] 25) := ⟨_, rfl⟩
      have hp : ICell w22 w21.heap.size false (.slice none 0 0) := by rw [hw22]; exact icell_new _ rfl
      have b22 : Below w21.heap.size w21 w22 := by rw [hw22]; exact belowA _ _
      have B22 : Below wx.heap.size wx w22 := bstep B21 b22
      rw [← hw22]
      obtain ⟨vy, hpv⟩ : ∃ v, v = w21.heap.size := ⟨_, rfl⟩
      have HPV : wx.heap.size ≤ vy := by rw [hpv]; exact B21.size
      have HPW : vy < w22.heap.size := by rw [hpv]; exact (Array.getElem?_eq_some_iff.1 hp).1
      have hne : (Value.slice mo ml mc).ownBlock = none ∨ (Value.slice mo ml mc).ownBlock ≠ some vy := (by rcases hu : (Value.slice mo ml mc).ownBlock with _ | k; exact .inl rfl; exact .inr fun e => by have h1 := (hm.block k hu).2; have h2 := Option.some.inj e; omega)
      replace hm := hm.below b22
      rw [← hpv] at hp ⊢
      clear hpv hw22
      replace hHeld := AllL.mv (w' := w22) hHeld ⟨⟨(qb.below B22).cells.1, (qb.below B22).cells.2.1⟩, (qa.below B22).cells, trivial⟩
      refine hK.out _ _ (AllL.kept hHeld) ?_
      clear hK K
      try simp only [pu1, pu2, pu3, pu4]
      have HIB : Hid (ICell ((w22.setCell ⟨vy, 0, none⟩ (.bool (decide (r * und q < 0)))).setCell ⟨vy, 1, none⟩ (.slice mo ml mc)) vy (decide (r * und q < 0)) (.slice mo ml mc) ∧ IB ((w22.setCell ⟨vy, 0, none⟩ (.bool (decide (r * und q < 0)))).setCell ⟨vy, 1, none⟩ (.slice mo ml mc)) (.agg #[.bool (decide (r * und q < 0)), .slice mo ml mc]) (r * und q) (M + L) ∧ Below wx.heap.size wx ((w22.setCell ⟨vy, 0, none⟩ (.bool (decide (r * und q < 0)))).setCell ⟨vy, 1, none⟩ (.slice mo ml mc))) := ⟨hp.write _ _, IOwn.ib ⟨_, rfl, (hm.other _ hne).other _ hne⟩ hsz9.len, (B22.setCell (p := ⟨vy, 0, none⟩) HPV _).setCell (p := ⟨vy, 1, none⟩) HPV _⟩
      have HVX : Hid (wx.heap.size ≤ vy) := HPV
      obtain ⟨y0, y1⟩ := hp.cells
      have f0 := hp.thaw 0
      have f1 := hp.thaw 1
      clear hsz9 hne hm hp HPW
      generalize decide (r * und q < 0) = bbn at *
      refine late_st 7 rfl (fun K hK => ?_)
      go_simp
      refine hK.out _ _ ⟨kpt 5, kpt 3, trivial⟩ ?_
      clear hK K
      try simp only [pu1, pu2, pu3, pu4]
      refine late_done (by kernel_rfl) ?_ _
      clear hHeld y0 y1 f0 f1
      go_wp2_with fail
      go_meet
      exact ⟨_, _, _, _, _, rfl, HIB.out.1, HIB.out.2.1, HIB.out.2.2, HVX.out⟩
     ·
      go_simp
      obtain ⟨w24, hw24⟩ : ∃ u, u = w20.alloc (.cells #[.bool false, .slice none 0 0] 25) := ⟨_, rfl⟩
      have hp : ICell w24 w20.heap.size false (.slice none 0 0) := by rw [hw24]; exact icell_new _ rfl
      have b24 : Below w20.heap.size w20 w24 := by rw [hw24]; exact belowA _ _
      have B24 : Below wx.heap.size wx w24 := bstep B20 b24
      rw [← hw24]
      obtain ⟨vy, hpv⟩ : ∃ v, v = w20.heap.size := ⟨_, rfl⟩
      have HPV : wx.heap.size ≤ vy := by rw [hpv]; exact B20.size
      have HPW : vy < w24.heap.size := by rw [hpv]; exact (Array.getElem?_eq_some_iff.1 hp).1
      rw [← hpv] at hp ⊢
      clear hpv hw24
      replace hHeld := AllL.mv (w' := w24) hHeld ⟨⟨(qb.below B24).cells.1, (qb.below B24).cells.2.1⟩, (qa.below B24).cells, trivial⟩
      refine hK.out _ _ (AllL.kept hHeld) ?_
      clear hK K
      try simp only [pu1, pu2, pu3, pu4]
      refine late_st 5 rfl (fun K hK => ?_)
      go_simp
      have hsz9 := (((((ib.below (below_drew' _)).below b19).below b20).below b24)).sz.mul ((im17.below b24)).sz
      have hq := rmulE ((((ib.below (below_drew' _)).below b19).below b20).below b24) (im17.below b24) (by omega)
      refine hq.mono ?_
      rintro e w25 ⟨v, rfl, ⟨m, rfl, hm⟩, b25⟩
      clear hq
      obtain ⟨mo, ml, mc, rfl⟩ := hm.sl
      have hne : (Value.slice mo ml mc).ownBlock = none ∨ (Value.slice mo ml mc).ownBlock ≠ some vy := (by rcases hu : (Value.slice mo ml mc).ownBlock with _ | k; exact .inl rfl; exact .inr fun e => by have h1 := (hm.block k hu).1; have h2 := Option.some.inj e; omega)
      have B25 : Below wx.heap.size wx w25 := bstep B24 b25
      replace hHeld := AllL.mv (w' := w25) hHeld ⟨⟨(qb.below B25).cells.1, (qb.below B25).cells.2.1⟩, (qa.below B25).cells, trivial⟩
      go_wp2_with fail
      refine hK.out _ _ (AllL.kept hHeld) ?_
      clear hK K
      try simp only [pu1, pu2, pu3, pu4]
      replace hp := hp.below b25
      replace HPW : vy < w25.heap.size := Nat.lt_of_lt_of_le HPW b25.size
      have HIB : Hid (ICell ((w25.setCell ⟨vy, 0, none⟩ (.bool (decide (r * und q < 0)))).setCell ⟨vy, 1, none⟩ (.slice mo ml mc)) vy (decide (r * und q < 0)) (.slice mo ml mc) ∧ IB ((w25.setCell ⟨vy, 0, none⟩ (.bool (decide (r * und q < 0)))).setCell ⟨vy, 1, none⟩ (.slice mo ml mc)) (.agg #[.bool (decide (r * und q < 0)), .slice mo ml mc]) (r * und q) (M + L) ∧ Below wx.heap.size wx ((w25.setCell ⟨vy, 0, none⟩ (.bool (decide (r * und q < 0)))).setCell ⟨vy, 1, none⟩ (.slice mo ml mc))) := ⟨hp.write _ _, IOwn.ib ⟨_, rfl, (hm.other _ hne).other _ hne⟩ hsz9.len, (B25.setCell (p := ⟨vy, 0, none⟩) HPV _).setCell (p := ⟨vy, 1, none⟩) HPV _⟩
      have HVX : Hid (wx.heap.size ≤ vy) := HPV
      obtain ⟨y0, y1⟩ := hp.cells
      have f0 := hp.thaw 0
      have f1 := hp.thaw 1
      clear hsz9 hne hm hp HPW
      generalize decide (r * und q < 0) = bbn at *
      refine late_st 7 rfl (fun K hK => ?_)
      go_simp
      refine hK.out _ _ ⟨kpt 5, kpt 3, trivial⟩ ?_
      clear hK K
      try simp only [pu1, pu2, pu3, pu4]
      refine late_done (by kernel_rfl) ?_ _
      clear hHeld y0 y1 f0 f1
      go_wp2_with fail
      go_meet
      exact ⟨_, _, _, _, _, rfl, HIB.out.1, HIB.out.2.1, HIB.out.2.2, HVX.out⟩
    ·
     go_simp
     obtain ⟨w27, hw27⟩ : ∃ u, u = w19.alloc (.cells #[.bool false, .slice none 0 0] 25) := ⟨_, rfl⟩
     have hp : ICell w27 w19.heap.size false (.slice none 0 0) := by rw [hw27]; exact icell_new _ rfl
     have b27 : Below w19.heap.size w19 w27 := by rw [hw27]; exact belowA _ _
     have B27 : Below wx.heap.size wx w27 := bstep B19 b27
     rw [← hw27]
     obtain ⟨vy, hpv⟩ : ∃ v, v = w19.heap.size := ⟨_, rfl⟩
     have HPV : wx.heap.size ≤ vy := by rw [hpv]; exact B19.size
     have HPW : vy < w27.heap.size := by rw [hpv]; exact (Array.getElem?_eq_some_iff.1 hp).1
     rw [← hpv] at hp ⊢
     clear hpv hw27
     replace hHeld := AllL.mv (w' := w27) hHeld ⟨⟨(qb.below B27).cells.1, (qb.below B27).cells.2.1⟩, (qa.below B27).cells, trivial⟩
     refine hK.out _ _ (AllL.kept hHeld) ?_
     clear hK K
     try simp only [pu1, pu2, pu3, pu4]
     refine late_st 4 rfl (fun K hK => ?_)
     go_simp
     have im17 := ((im16.below b27)).ib
     refine (whole3 _ _ _ _).mono ?_
     rintro e w28 ⟨rfl, b28⟩
     replace im17 := im17.below b28
     have B28 : Below wx.heap.size wx w28 := bstep B27 b28
     replace hHeld := AllL.mv (w' := w28) hHeld ⟨⟨(qb.below B28).cells.1, (qb.below B28).cells.2.1⟩, (qa.below B28).cells, trivial⟩
     go_wp2_with fail
     refine hK.out _ _ (AllL.kept hHeld) ?_
     clear hK K
     try simp only [pu1, pu2, pu3, pu4]
     replace hp := hp.below b28
     replace HPW : vy < w28.heap.size := Nat.lt_of_lt_of_le HPW b28.size
     refine late_st 5 rfl (fun K hK => ?_)
     go_simp
     have hsz9 := (((((ib.below (below_drew' _)).below b19).below b27).below b28)).sz.mul (im17).sz
     have hq := rmulE ((((ib.below (below_drew' _)).below b19).below b27).below b28) im17 (by omega)
     refine hq.mono ?_
     rintro e w29 ⟨v, rfl, ⟨m, rfl, hm⟩, b29⟩
     clear hq
     obtain ⟨mo, ml, mc, rfl⟩ := hm.sl
     have hne : (Value.slice mo ml mc).ownBlock = none ∨ (Value.slice mo ml mc).ownBlock ≠ some vy := (by rcases hu : (Value.slice mo ml mc).ownBlock with _ | k; exact .inl rfl; exact .inr fun e => by have h1 := (hm.block k hu).1; have h2 := Option.some.inj e; omega)
     have B29 : Below wx.heap.size wx w29 := bstep B28 b29
     replace hHeld := AllL.mv (w' := w29) hHeld ⟨⟨(qb.below B29).cells.1, (qb.below B29).cells.2.1⟩, (qa.below B29).cells, trivial⟩
     go_wp2_with fail
     refine hK.out _ _ (AllL.kept hHeld) ?_
     clear hK K
     try simp only [pu1, pu2, pu3, pu4]
     replace hp := hp.below b29
     replace HPW : vy < w29.heap.size := Nat.lt_of_lt_of_le HPW b29.size
     have HIB : Hid (ICell ((w29.setCell ⟨vy, 0, none⟩ (.bool (decide (r * und q < 0)))).setCell ⟨vy, 1, none⟩ (.slice mo ml mc)) vy (decide (r * und q < 0)) (.slice mo ml mc) ∧ IB ((w29.setCell ⟨vy, 0, none⟩ (.bool (decide (r * und q < 0)))).setCell ⟨vy, 1, none⟩ (.slice mo ml mc)) (.agg #[.bool (decide (r * und q < 0)), .slice mo ml mc]) (r * und q) (M + L) ∧ Below wx.heap.size wx ((w29.setCell ⟨vy, 0, none⟩ (.bool (decide (r * und q < 0)))).setCell ⟨vy, 1, none⟩ (.slice mo ml mc))) := ⟨hp.write _ _, IOwn.ib ⟨_, rfl, (hm.other _ hne).other _ hne⟩ hsz9.len, (B29.setCell (p := ⟨vy, 0, none⟩) HPV _).setCell (p := ⟨vy, 1, none⟩) HPV _⟩
     have HVX : Hid (wx.heap.size ≤ vy) := HPV
     obtain ⟨y0, y1⟩ := hp.cells
     have f0 := hp.thaw 0
     have f1 := hp.thaw 1
     clear hsz9 hne hm hp HPW
     generalize decide (r * und q < 0) = bbn at *
     refine late_st 7 rfl (fun K hK => ?_)
     go_simp
     refine hK.out _ _ ⟨kpt 5, kpt 3, trivial⟩ ?_
     clear hK K
     try simp only [pu1, pu2, pu3, pu4]
     refine late_done (by kernel_rfl) ?_ _
     clear hHeld y0 y1 f0 f1
     go_wp2_with fail
     go_meet
     exact ⟨_, _, _, _, _, rfl, HIB.out.1, HIB.out.2.1, HIB.out.2.2, HVX.out⟩
   ·
    go_simp
    obtain ⟨w31, hw31⟩ : ∃ u, u = (wx.alloc (.cells #[.bool false, .slice none 0 0] 25)).drew := ⟨_, rfl⟩
    have hp : ICell w31 wx.heap.size false (.slice none 0 0) := by rw [hw31]; exact icell_new _ rfl
    have b31 : Below wx.drew.heap.size wx.drew w31 := by rw [hw31]; exact belowA wx.drew _
    have B31 : Below wx.heap.size wx w31 := bstep (below_drew' _) b31
    rw [← hw31]
    obtain ⟨vy, hpv⟩ : ∃ v, v = wx.heap.size := ⟨_, rfl⟩
    have HPV : wx.heap.size ≤ vy := by rw [hpv]; exact Nat.le_refl _
    have HPW : vy < w31.heap.size := by rw [hpv]; exact (Array.getElem?_eq_some_iff.1 hp).1
    rw [← hpv] at hp ⊢
    clear hpv hw31
    replace hHeld := AllL.mv (w' := w31) hHeld ⟨⟨(qb.below B31).cells.1, (qb.below B31).cells.2.1⟩, (qa.below B31).cells, trivial⟩
    refine hK.out _ _ (AllL.kept hHeld) ?_
    clear hK K
    try simp only [pu1, pu2, pu3, pu4]
    refine late_st 3 rfl (fun K hK => ?_)
    go_simp
    refine (den3 ((da.below (below_drew' _)).below b31) ⟨h1L, by omega⟩).mono ?_
    rintro e w32 ⟨m16o, m16l, m16c, rfl, im16, b32⟩
    have B32 : Below wx.heap.size wx w32 := bstep B31 b32
    replace hHeld := AllL.mv (w' := w32) hHeld ⟨⟨(qb.below B32).cells.1, (qb.below B32).cells.2.1⟩, (qa.below B32).cells, trivial⟩
    go_wp2_with fail
    refine hK.out _ _ (AllL.kept hHeld) ?_
    clear hK K
    try simp only [pu1, pu2, pu3, pu4]
    replace hp := hp.below b32
    replace HPW : vy < w32.heap.size := Nat.lt_of_lt_of_le HPW b32.size
    refine late_st 4 rfl (fun K hK => ?_)
    go_simp
    have im17 := (im16).ib
    refine (whole3 _ _ _ _).mono ?_
    rintro e w33 ⟨rfl, b33⟩
    replace im17 := im17.below b33
    have B33 : Below wx.heap.size wx w33 := bstep B32 b33
    replace hHeld := AllL.mv (w' := w33) hHeld ⟨⟨(qb.below B33).cells.1, (qb.below B33).cells.2.1⟩, (qa.below B33).cells, trivial⟩
    go_wp2_with fail
    refine hK.out _ _ (AllL.kept hHeld) ?_
    clear hK K
    try simp only [pu1, pu2, pu3, pu4]
    replace hp := hp.below b33
    replace HPW : vy < w33.heap.size := Nat.lt_of_lt_of_le HPW b33.size
    refine late_st 5 rfl (fun K hK => ?_)
    go_simp
    have hsz9 := (((((ib.below (below_drew' _)).below b31).below b32).below b33)).sz.mul (im17).sz
    have hq := rmulE ((((ib.below (below_drew' _)).below b31).below b32).below b33) im17 (by omega)
    refine hq.mono ?_
    rintro e w34 ⟨v, rfl, ⟨m, rfl, hm⟩, b34⟩
    clear hq
    obtain ⟨mo, ml, mc, rfl⟩ := hm.sl
    have hne : (Value.slice mo ml mc).ownBlock = none ∨ (Value.slice mo ml mc).ownBlock ≠ some vy := (by rcases hu : (Value.slice mo ml mc).ownBlock with _ | k; exact .inl rfl; exact .inr fun e => by have h1 := (hm.block k hu).1; have h2 := Option.some.inj e; omega)
    have B34 : Below wx.heap.size wx w34 := bstep B33 b34
    replace hHeld := AllL.mv (w' := w34) hHeld ⟨⟨(qb.below B34).cells.1, (qb.below B34).cells.2.1⟩, (qa.below B34).cells, trivial⟩
    go_wp2_with fail
    refine hK.out _ _ (AllL.kept hHeld) ?_
    clear hK K
    try simp only [pu1, pu2, pu3, pu4]
    replace hp := hp.below b34
    replace HPW : vy < w34.heap.size := Nat.lt_of_lt_of_le HPW b34.size
    have HIB : Hid (ICell ((w34.setCell ⟨vy, 0, none⟩ (.bool (decide (r * und q < 0)))).setCell ⟨vy, 1, none⟩ (.slice mo ml mc)) vy (decide (r * und q < 0)) (.slice mo ml mc) ∧ IB ((w34.setCell ⟨vy, 0, none⟩ (.bool (decide (r * und q < 0)))).setCell ⟨vy, 1, none⟩ (.slice mo ml mc)) (.agg #[.bool (decide (r * und q < 0)), .slice mo ml mc]) (r * und q) (M + L) ∧ Below wx.heap.size wx ((w34.setCell ⟨vy, 0, none⟩ (.bool (decide (r * und q < 0)))).setCell ⟨vy, 1, none⟩ (.slice mo ml mc))) := ⟨hp.write _ _, IOwn.ib ⟨_, rfl, (hm.other _ hne).other _ hne⟩ hsz9.len, (B34.setCell (p := ⟨vy, 0, none⟩) HPV _).setCell (p := ⟨vy, 1, none⟩) HPV _⟩
    have HVX : Hid (wx.heap.size ≤ vy) := HPV
    obtain ⟨y0, y1⟩ := hp.cells
    have f0 := hp.thaw 0
    have f1 := hp.thaw 1
    clear hsz9 hne hm hp HPW
    generalize decide (r * und q < 0) = bbn at *
    refine late_st 7 rfl (fun K hK => ?_)
    go_simp
    refine hK.out _ _ ⟨kpt 5, kpt 3, trivial⟩ ?_
    clear hK K
    try simp only [pu1, pu2, pu3, pu4]
    refine late_done (by kernel_rfl) ?_ _
    clear hHeld y0 y1 f0 f1
    go_wp2_with fail
    go_meet
    exact ⟨_, _, _, _, _, rfl, HIB.out.1, HIB.out.2.1, HIB.out.2.2, HVX.out⟩
  case rest =>
   obtain ⟨wy, hwwy⟩ : ∃ W, W = wc := ⟨_, rfl⟩
   rw [← hwwy] at hcut ⊢
   clear hwwy
   obtain ⟨vy, ny, yo, yl, yc, rfl, qy, iy, b, hvy⟩ := hcut
   replace ia := ia.below b
   replace ib := ib.below b
   replace da := da.below b
   replace db := db.below b
   replace ix := ix.below b
   replace qa := qa.below b
   replace qb := qb.below b
   replace qR := qR.below b
   replace qx := qx.below b
   replace hb := bstep hb b
   replace hsz := Nat.lt_of_lt_of_le hsz b.size
   clear b
   obtain ⟨cqa0, cqa1, cqa2⟩ := qa.cells
   obtain ⟨cqb0, cqb1, cqb2⟩ := qb.cells
   obtain ⟨cqR0, cqR1, cqR2⟩ := qR.cells
   obtain ⟨cqx0, cqx1⟩ := qx.cells
   obtain ⟨cqy0, cqy1⟩ := qy.cells
   go_wp2_with fail
   clear cqa0 cqa1 cqa2 cqb0 cqb1 cqb2 cqR0 cqR1 cqR2 cqx0 cqx1 cqy0 cqy1
   refine region_late [(0, fun w' => w'.cell? ⟨vx, 0, none⟩ = some (.bool nx) ∧ w'.cell? ⟨vx, 1, none⟩ = some (.slice xo xl xc)), (1, fun w' => w'.cell? ⟨vy, 0, none⟩ = some (.bool ny) ∧ w'.cell? ⟨vy, 1, none⟩ = some (.slice yo yl yc)), (3, fun w' => w'.cell? ⟨g, 0, none⟩ = some (.bool na) ∧ w'.cell? ⟨g, 1, none⟩ = some (.slice ao al ac) ∧ w'.cell? ⟨g, 2, none⟩ = some (.slice aO aL aC)), (5, fun w' => w'.cell? ⟨g + 1, 0, none⟩ = some (.bool nb) ∧ w'.cell? ⟨g + 1, 1, none⟩ = some (.slice bo bl bc) ∧ w'.cell? ⟨g + 1, 2, none⟩ = some (.slice bO bL bC))] (by kernel_rfl) ?_
   have hHeld : AllL wy.drew [(0, fun w' => w'.cell? ⟨vx, 0, none⟩ = some (.bool nx) ∧ w'.cell? ⟨vx, 1, none⟩ = some (.slice xo xl xc)), (1, fun w' => w'.cell? ⟨vy, 0, none⟩ = some (.bool ny) ∧ w'.cell? ⟨vy, 1, none⟩ = some (.slice yo yl yc)), (3, fun w' => w'.cell? ⟨g, 0, none⟩ = some (.bool na) ∧ w'.cell? ⟨g, 1, none⟩ = some (.slice ao al ac) ∧ w'.cell? ⟨g, 2, none⟩ = some (.slice aO aL aC)), (5, fun w' => w'.cell? ⟨g + 1, 0, none⟩ = some (.bool nb) ∧ w'.cell? ⟨g + 1, 1, none⟩ = some (.slice bo bl bc) ∧ w'.cell? ⟨g + 1, 2, none⟩ = some (.slice bO bL bC))] := ⟨(show ICell wy.drew (vx) nx (.slice xo xl xc) from qx).cells, (show ICell wy.drew (vy) ny (.slice yo yl yc) from qy).cells, (show QCell wy.drew (g) na (.slice ao al ac) (.slice aO aL aC) from qa).cells, (show QCell wy.drew (g + 1) nb (.slice bo bl bc) (.slice bO bL bC) from qb).cells, trivial⟩
   refine late_tk 0 (v := .agg #[.bool nx, .slice xo xl xc]) rfl (List.Mem.head _) (Or.inl ⟨by rfl, ?_⟩) hHeld ?_
   · (intro u hu; (try dsimp only at hu); go_split_ands; go_simp)
   try simp only [pu1, pu2, pu3, pu4]
   refine late_tk 1 (v := .agg #[.bool ny, .slice yo yl yc]) rfl (List.Mem.tail _ (List.Mem.head _)) (Or.inl ⟨by rfl, ?_⟩) hHeld ?_
   · (intro u hu; (try dsimp only at hu); go_split_ands; go_simp)
   try simp only [pu1, pu2, pu3, pu4]
   refine late_tk 3 (v := .agg #[.bool na, .slice ao al ac, .slice aO aL aC]) rfl (List.Mem.tail _ (List.Mem.tail _ (List.Mem.head _))) (Or.inl ⟨by rfl, ?_⟩) hHeld ?_
   · (intro u hu; (try dsimp only at hu); go_split_ands; go_simp)
   try simp only [pu1, pu2, pu3, pu4]
   refine late_tk 5 (v := .agg #[.bool nb, .slice bo bl bc, .slice bO bL bC]) rfl (List.Mem.tail _ (List.Mem.tail _ (List.Mem.tail _ (List.Mem.head _)))) (Or.inl ⟨by rfl, ?_⟩) hHeld ?_
   · (intro u hu; (try dsimp only at hu); go_split_ands; go_simp)
   try simp only [pu1, pu2, pu3, pu4]
   refine late_st 2 rfl (fun K hK => ?_)
   go_simp
   refine (raddB (ix.below (below_drew' _)) (iy.below (below_drew' _)) (by omega)).mono ?_
   rintro e w36 ⟨nm21, m21o, m21l, m21c, rfl, im21, b36⟩
   have B36 : Below wy.heap.size wy w36 := bstep (below_drew' _) b36
   replace hHeld := AllL.mv (w' := w36) hHeld ⟨(qx.below B36).cells, (qy.below B36).cells, (qa.below B36).cells, (qb.below B36).cells, trivial⟩
   go_wp2_with fail
   refine hK.out _ _ (AllL.kept hHeld) ?_
   clear hK K
   try simp only [pu1, pu2, pu3, pu4]
   refine late_st 4 rfl (fun K hK => ?_)
   go_simp
   refine (den3 ((da.below (below_drew' _)).below b36) ⟨h1L, by omega⟩).mono ?_
   rintro e w37 ⟨m23o, m23l, m23c, rfl, im23, b37⟩
   have B37 : Below wy.heap.size wy w37 := bstep B36 b37
   replace hHeld := AllL.mv (w' := w37) hHeld ⟨(qx.below B37).cells, (qy.below B37).cells, (qa.below B37).cells, (qb.below B37).cells, trivial⟩
   go_wp2_with fail
   refine hK.out _ _ (AllL.kept hHeld) ?_
   clear hK K
   try simp only [pu1, pu2, pu3, pu4]
   refine late_st 6 rfl (fun K hK => ?_)
   go_simp
   refine (den3 (((db.below (below_drew' _)).below b36).below b37) ⟨h1M, by omega⟩).mono ?_
   rintro e w38 ⟨m25o, m25l, m25c, rfl, im25, b38⟩
   have B38 : Below wy.heap.size wy w38 := bstep B37 b38
   replace hHeld := AllL.mv (w' := w38) hHeld ⟨(qx.below B38).cells, (qy.below B38).cells, (qa.below B38).cells, (qb.below B38).cells, trivial⟩
   go_wp2_with fail
   refine hK.out _ _ (AllL.kept hHeld) ?_
   clear hK K
   try simp only [pu1, pu2, pu3, pu4]
   refine late_st 7 rfl (fun K hK => ?_)
   go_simp
   refine (nmulB (im23.below b38) im25 (by omega)).mono ?_
   rintro e w39 ⟨m26o, m26l, m26c, rfl, im26, b39⟩
   have B39 : Below wy.heap.size wy w39 := bstep B38 b39
   replace hHeld := AllL.mv (w' := w39) hHeld ⟨(qx.below B39).cells, (qy.below B39).cells, (qa.below B39).cells, (qb.below B39).cells, trivial⟩
   go_wp2_with fail
   refine hK.out _ _ (AllL.kept hHeld) ?_
   clear hK K
   try simp only [pu1, pu2, pu3, pu4]
   refine late_st 8 rfl (fun K hK => ?_)
   go_simp
   have hq := lowB (((im21.below b37).below b38).below b39) im26 (by omega) (by omega) (und_mul_ne _ _)
   rw [HZ.out] at hq
   refine hq.mono ?_
   rintro e w40 ⟨v, rfl, hv, b40⟩
   clear hq
   obtain ⟨m, d, rfl, hm, hd, hap⟩ := hv
   obtain ⟨mo, ml, mc, rfl⟩ := hm.sl
   obtain ⟨mO, mL, mC, rfl⟩ := hd.sl
   have B40 : Below wy.heap.size wy w40 := bstep B39 b40
   replace hHeld := AllL.mv (w' := w40) hHeld ⟨(qx.below B40).cells, (qy.below B40).cells, (qa.below B40).cells, (qb.below B40).cells, trivial⟩
   go_wp2_with fail
   refine hK.out _ _ (AllL.kept hHeld) ?_
   clear hK K
   try simp only [pu1, pu2, pu3, pu4]
   have qq := qR.below B40
   have HE : Hid (REnd w Z (.returned (.agg #[.bool (decide (Z.num < 0)), .slice mo ml mc, .slice mO mL mC])) (((w40.setCell ⟨g + 1 + 1, 0, none⟩ (.bool (decide (Z.num < 0)))).setCell ⟨g + 1 + 1, 1, none⟩ (.slice mo ml mc)).setCell ⟨g + 1 + 1, 2, none⟩ (.slice mO mL mC))) := rat_done rfl (by rw [HG.out]; omega) hm hd hap (Nat.lt_of_lt_of_le hsz B39.size) (bstep hb B40)
   have HW : Hid (QCell (((w40.setCell ⟨g + 1 + 1, 0, none⟩ (.bool (decide (Z.num < 0)))).setCell ⟨g + 1 + 1, 1, none⟩ (.slice mo ml mc)).setCell ⟨g + 1 + 1, 2, none⟩ (.slice mO mL mC)) (g + 1 + 1) (decide (Z.num < 0)) (.slice mo ml mc) (.slice mO mL mC)) := qq.write _ _ _
   obtain ⟨y0, y1, y2⟩ := qq.cells
   have f0 := qq.thaw 0
   have f1 := qq.thaw 1
   have f2 := qq.thaw 2
   generalize decide (Z.num < 0) = bb at *
   clear qq hap
   clear im21 im23 im25 im26
   refine late_st 9 rfl (fun K hK => ?_)
   go_simp
   refine hK.out _ _ ⟨kpt 2, kpt 2, kpt 4, kpt 6, trivial⟩ ?_
   clear hK K
   try simp only [pu1, pu2, pu3, pu4]
   refine late_done (by kernel_rfl) ?_ _
   clear hHeld
   clear hb hsz hm hd qa qb qR qx qy ia ib da db ix iy b36 b37 b38 b39 b40 B36 B37 B38 B39 B40 hvx hvy
   go_wp2_with fail
   (try simp only [Exit.inBlock, Exit.then])
   exact bodyPost_ret (results_cell_row rfl _ _ (g + 1 + 1) 27 _ (0, 0) _ rfl HW.out Tryz.underlying27 rfl (by kernel_rfl)) rfl HE.out
open Go.RowKit
attribute [local go_sem ↓] Go.wp_at_zero Go.wp_at_succ

theorem rnum_of {p : Int} {q L : Nat} {na : Bool} {ao aO : Option Addr} {al ac aL aC : Nat} {w : World} (ia : IB w (.agg #[.bool na, .slice ao al ac]) p L) (da : NB w (.slice aO aL aC) (q : Int) L) (h1L : 1 ≤ L) (hL : L ≤ 1000000) : RNum w (.agg #[.bool na, .slice ao al ac, .slice aO aL aC]) (rq p q) L := by
 have h1 := ia.sz
 have h2 := und_sz da.sz h1L
 have h3 := ia.num hL
 obtain ⟨o, l, c, ys, e, k1, k2, k3⟩ := da
 cases e
 exact ⟨p, q, ⟨_, _, _, _, _, _, _, ys, rfl, h3, k1, by omega, by omega⟩, rfl, h1, h2⟩
open Go.RowKit

open Go.RowKit
attribute [local go_sem ↓] Go.wp_at_zero Go.wp_at_succ

theorem ROwn.seeB {B : Nat} {w : World} {v : Value} {x : Rat} {L : Nat} (h : ROwn B w v x) (hs : RSz x L) : ∃ n ao al ac bo bl bc, v = .agg #[.bool n, .slice ao al ac, .slice bo bl bc] ∧ IB w (.agg #[.bool n, .slice ao al ac]) x.num L ∧ NB w (.slice bo bl bc) (x.den : Int) L := by
 obtain ⟨m, d, rfl, hm, hd, _⟩ := h
 obtain ⟨mo, ml, mc, rfl⟩ := hm.sl
 obtain ⟨dO, dL, dC, rfl⟩ := hd.sl
 have h2 := hs.den.len
 rw [Int.natAbs_natCast] at h2
 exact ⟨_, _, _, _, _, _, _, rfl, IOwn.ib ⟨_, rfl, hm⟩ hs.num.len, _, _, _, _, rfl, hd.num, h2, by rw [val_lim]⟩
theorem sub3 {p r : Int} {q k L M : Nat} (na : Bool) (ao aO : Option Addr) (al ac aL aC : Nat) (nb : Bool) (bo bO : Option Addr) (bl bc bL bC : Nat) {w : World} (ia : IB w (.agg #[.bool na, .slice ao al ac]) p L) (da : NB w (.slice aO aL aC) (q : Int) L) (h1L : 1 ≤ L) (ib : IB w (.agg #[.bool nb, .slice bo bl bc]) r M) (db : NB w (.slice bO bL bC) (k : Int) M) (h1M : 1 ≤ M) (hL : L + M ≤ 140) : Calls Tryz.prog 25 #[.agg #[.bool na, .slice ao al ac, .slice aO aL aC], .agg #[.bool nb, .slice bo bl bc, .slice bO bL bC]] w fun e w' => REnd w (rq p q - rq r k) e w' := by
 obtain ⟨Z, hZ⟩ : ∃ Z, Z = rq p q - rq r k := ⟨_, rfl⟩
 rw [← hZ]
 have hsy := rsz_neg ib.sz (und_sz db.sz h1M)
 obtain ⟨Y, hY⟩ : ∃ Y, Y = -rq r k := ⟨_, rfl⟩
 have HY : Hid (-rq r k = Y) := hY.symm
 rw [← hY] at hsy
 have HZ : Hid (rq p q + rq Y.num Y.den = Z) := by show _ = _; rw [hZ, rq_std, hY, Rat.sub_eq_add_neg]
 clear hZ hY
 obtain ⟨W1, hW1⟩ : ∃ W1, W1 = ((w.alloc (.cells #[.bool na, .slice ao al ac, .slice aO aL aC] 27)).alloc (.cells #[.bool nb, .slice bo bl bc, .slice bO bL bC] 27)).alloc (.cells #[.bool false, .slice none 0 0, .slice none 0 0] 27) := ⟨_, rfl⟩
 have qa : QCell W1 (w.heap.size) na (.slice ao al ac) (.slice aO aL aC) := by rw [hW1]; exact (qcell_step (qcell_step (qcell_new _ (by simp))))
 have qb : QCell W1 (w.heap.size + 1) nb (.slice bo bl bc) (.slice bO bL bC) := by rw [hW1]; exact (qcell_step (qcell_new _ (by simp)))
 have qR : QCell W1 (w.heap.size + 1 + 1) false (.slice none 0 0) (.slice none 0 0) := by rw [hW1]; exact (qcell_new _ (by simp))
 have hb : Below w.heap.size w W1 := by rw [hW1]; exact bstep (bstep (belowA w _) (belowA _ _)) (belowA _ _)
 have hsz : w.heap.size + 1 + 1 < W1.heap.size := by rw [hW1]; simp
 replace db := db.below hb
 replace da := da.below hb
 replace ia := ia.below hb
 replace ib := ib.below hb
 have HW1 : Hid (W1 = ((w.alloc (.cells #[.bool na, .slice ao al ac, .slice aO aL aC] 27)).alloc (.cells #[.bool nb, .slice bo bl bc, .slice bO bL bC] 27)).alloc (.cells #[.bool false, .slice none 0 0, .slice none 0 0] 27)) := hW1
 clear hW1
 go_enter Tryz.func25, Tryz.ntmps25
 go_wp2_with fail
 rw [← HW1.out]
 clear HW1
 obtain ⟨g, hg⟩ : ∃ g, g = w.heap.size := ⟨_, rfl⟩
 rw [← hg] at qa qb qR hsz ⊢
 have HG : Hid (g = w.heap.size) := hg
 clear hg
 refine region_late [(0, fun w' => w'.cell? ⟨g, 0, none⟩ = some (.bool na) ∧ w'.cell? ⟨g, 1, none⟩ = some (.slice ao al ac) ∧ w'.cell? ⟨g, 2, none⟩ = some (.slice aO aL aC)), (1, fun w' => w'.cell? ⟨g + 1, 0, none⟩ = some (.bool nb) ∧ w'.cell? ⟨g + 1, 1, none⟩ = some (.slice bo bl bc) ∧ w'.cell? ⟨g + 1, 2, none⟩ = some (.slice bO bL bC))] (by kernel_rfl) ?_
 have hHeld : AllL W1.drew [(0, fun w' => w'.cell? ⟨g, 0, none⟩ = some (.bool na) ∧ w'.cell? ⟨g, 1, none⟩ = some (.slice ao al ac) ∧ w'.cell? ⟨g, 2, none⟩ = some (.slice aO aL aC)), (1, fun w' => w'.cell? ⟨g + 1, 0, none⟩ = some (.bool nb) ∧ w'.cell? ⟨g + 1, 1, none⟩ = some (.slice bo bl bc) ∧ w'.cell? ⟨g + 1, 2, none⟩ = some (.slice bO bL bC))] := ⟨(show QCell W1.drew (g) na (.slice ao al ac) (.slice aO aL aC) from qa).cells, (show QCell W1.drew (g + 1) nb (.slice bo bl bc) (.slice bO bL bC) from qb).cells, trivial⟩
 refine late_tk 0 (v := .agg #[.bool na, .slice ao al ac, .slice aO aL aC]) rfl (List.Mem.head _) (Or.inl ⟨by rfl, ?_⟩) hHeld ?_
 · (intro u hu; (try dsimp only at hu); go_split_ands; go_simp)
 try simp only [pu1, pu2, pu3, pu4]
 refine late_tk 1 (v := .agg #[.bool nb, .slice bo bl bc, .slice bO bL bC]) rfl (List.Mem.tail _ (List.Mem.head _)) (Or.inl ⟨by rfl, ?_⟩) hHeld ?_
 · (intro u hu; (try dsimp only at hu); go_split_ands; go_simp)
 try simp only [pu1, pu2, pu3, pu4]
 refine late_st 2 rfl (fun K hK => ?_)
 go_simp
 have hq := neg3 nb bo bO bl bc bL bC (ib.below (below_drew' _)) (db.below (below_drew' _)) h1M (by omega)
 rw [HY.out] at hq
 refine hq.mono ?_
 rintro e w2 ⟨v, rfl, hv, b2⟩
 clear hq
 obtain ⟨ny, yo, yl, yc, yO, yL, yC, rfl, iy, dy⟩ := hv.seeB hsy
 clear hv
 have B2 : Below W1.heap.size W1 w2 := bstep (below_drew' _) b2
 replace hHeld := AllL.mv (w' := w2) hHeld ⟨(qa.below B2).cells, (qb.below B2).cells, trivial⟩
 go_wp2_with fail
 refine hK.out _ _ (AllL.kept hHeld) ?_
 clear hK K
 try simp only [pu1, pu2, pu3, pu4]
 refine late_st 3 rfl (fun K hK => ?_)
 go_simp
 have hq := add3 na ao aO al ac aL aC ny yo yO yl yc yL yC ((ia.below (below_drew' _)).below b2) ((da.below (below_drew' _)).below b2) h1L iy dy h1M (by omega)
 rw [HZ.out] at hq
 refine hq.mono ?_
 rintro e w3 ⟨v, rfl, hv, b3⟩
 clear hq iy dy
 obtain ⟨m, d, rfl, hm, hd, hap⟩ := hv
 obtain ⟨mo, ml, mc, rfl⟩ := hm.sl
 obtain ⟨mO, mL, mC, rfl⟩ := hd.sl
 have B3 : Below W1.heap.size W1 w3 := bstep B2 b3
 replace hHeld := AllL.mv (w' := w3) hHeld ⟨(qa.below B3).cells, (qb.below B3).cells, trivial⟩
 go_wp2_with fail
 refine hK.out _ _ (AllL.kept hHeld) ?_
 clear hK K
 try simp only [pu1, pu2, pu3, pu4]
 have qq := qR.below B3
 have HE : Hid (REnd w Z (.returned (.agg #[.bool (decide (Z.num < 0)), .slice mo ml mc, .slice mO mL mC])) (((w3.setCell ⟨g + 1 + 1, 0, none⟩ (.bool (decide (Z.num < 0)))).setCell ⟨g + 1 + 1, 1, none⟩ (.slice mo ml mc)).setCell ⟨g + 1 + 1, 2, none⟩ (.slice mO mL mC))) := rat_done rfl (by rw [HG.out]; omega) hm hd hap (Nat.lt_of_lt_of_le hsz B2.size) (bstep hb B3)
 have HW : Hid (QCell (((w3.setCell ⟨g + 1 + 1, 0, none⟩ (.bool (decide (Z.num < 0)))).setCell ⟨g + 1 + 1, 1, none⟩ (.slice mo ml mc)).setCell ⟨g + 1 + 1, 2, none⟩ (.slice mO mL mC)) (g + 1 + 1) (decide (Z.num < 0)) (.slice mo ml mc) (.slice mO mL mC)) := qq.write _ _ _
 obtain ⟨y0, y1, y2⟩ := qq.cells
 have f0 := qq.thaw 0
 have f1 := qq.thaw 1
 have f2 := qq.thaw 2
 generalize decide (Z.num < 0) = bb at *
 clear qq hap
 refine late_st 4 rfl (fun K hK => ?_)
 go_simp
 refine hK.out _ _ ⟨kpt 3, kpt 2, trivial⟩ ?_
 clear hK K
 try simp only [pu1, pu2, pu3, pu4]
 refine late_done (by kernel_rfl) ?_ _
 clear hHeld
 clear hb hsz hm hd qa qb qR ia ib da db b2 b3 B2 B3 
 go_wp2_with fail
 (try simp only [Exit.inBlock, Exit.then])
 exact bodyPost_ret (results_cell_row rfl _ _ (g + 1 + 1) 27 _ (0, 0) _ rfl HW.out Tryz.underlying27 rfl (by kernel_rfl)) rfl HE.out
open Go.RowKit
attribute [local go_sem ↓] Go.wp_at_zero Go.wp_at_succ

theorem own_one_new (w : World) : Own w.heap.size 37 (w.alloc (.cells #[.int .u32 1] 37)) (.slice (some ⟨w.heap.size, 0, none⟩) 1 1) [1] :=
 ⟨fun x hx => by rw [List.mem_singleton.1 hx]; decide, rfl, .inr ⟨w.heap.size, 1, #[.int .u32 1], rfl, Nat.le_refl _, heap_alloc_new w _, Nat.le_refl _, by decide, rfl, rfl⟩⟩
theorem one3E (w : World) : Calls Tryz.prog 64 #[] w fun e w' => Made' w.heap.size w [1] e w' := by
 have HN : Hid (Own w.heap.size 37 (w.alloc (.cells #[.int .u32 1] 37)) (.slice (some ⟨w.heap.size, 0, none⟩) 1 1) [1]) := own_one_new w
 go_enter Tryz.func64, Tryz.ntmps64
 go_wp2
 go_ret
 exact ⟨_, rfl, HN.out, belowA _ _⟩
theorem den3E_no (na : Bool) (ao aO : Option Addr) (al ac aL aC : Nat) (ya : List Nat) (q : Nat) (w : World) (da : Num w (.slice aO aL aC) ya) (la : ya.length ≤ 1000) (he : val ya = q) (hz : q = 0) : Calls Tryz.prog 61 #[.agg #[.bool na, .slice ao al ac, .slice aO aL aC]] w fun e w' => Made' w.heap.size w (lim (und q).natAbs) e w' := by
 obtain ⟨W1, hW1⟩ : ∃ W1, W1 = w.alloc (.cells #[.bool na, .slice ao al ac, .slice aO aL aC] 27) := ⟨_, rfl⟩
 have qa : QCell W1 (w.heap.size) na (.slice ao al ac) (.slice aO aL aC) := by rw [hW1]; exact (qcell_new _ (by simp))
 have hb : Below w.heap.size w W1 := by rw [hW1]; exact belowA w _
 have hsz : w.heap.size < W1.heap.size := by rw [hW1]; simp
 replace da := da.below (Nat.le_refl _) hb
 have HW1 : Hid (W1 = w.alloc (.cells #[.bool na, .slice ao al ac, .slice aO aL aC] 27)) := hW1
 clear hW1
 go_enter Tryz.func61, Tryz.ntmps61
 go_wp2_with fail
 rw [← HW1.out]
 clear HW1
 obtain ⟨g, hg⟩ : ∃ g, g = w.heap.size := ⟨_, rfl⟩
 rw [← hg] at qa hsz ⊢
 have HG : Hid (g = w.heap.size) := hg
 clear hg
 obtain ⟨cqa0, cqa1, cqa2⟩ := qa.cells
 go_wp2_with fail
 clear cqa0 cqa1 cqa2
 have hq := norm_ref _ _ _ da (by omega)
 refine (hq).mono ?_
 rintro e w2 ⟨u, rfl, hu, b⟩
 clear hq
 obtain ⟨uo, ul, uc, rfl⟩ := hu.sl
 have hul := (num_len hu.num).1
 replace da := da.below (Nat.le_refl _) b
 replace qa := qa.below b
 replace hb := bstep hb b
 replace hsz := Nat.lt_of_lt_of_le hsz b.size
 clear b
 have hul0 : ul = 0 := by rw [← hul, he, hz]; rfl
 clear hul
 subst hul0
 obtain ⟨cqa0, cqa1, cqa2⟩ := qa.cells
 go_wp2_with fail
 clear cqa0 cqa1 cqa2
 refine (one3E _).mono ?_
 rintro e w3 ⟨y, rfl, hn, b⟩
 obtain ⟨yo, yl, yc, rfl⟩ := hn.sl
 have hsy := hb.size
 replace da := da.below (Nat.le_refl _) b
 replace hu := hu.below b
 replace qa := qa.below b
 replace hb := bstep hb b
 replace hsz := Nat.lt_of_lt_of_le hsz b.size
 clear b
 have HE : Hid (Made' w.heap.size w (lim (und q).natAbs) (.returned (.slice yo yl yc)) w3) := ⟨_, rfl, by rw [show lim (und q).natAbs = [1] by rw [hz]; decide]; exact hn.mono hsy, hb⟩
 clear hb hsz hn hsy qa da hu
 go_wp2
 go_ret
 exact HE.out
theorem den3E_yes (na : Bool) (ao aO : Option Addr) (al ac aL aC : Nat) (ya : List Nat) (q : Nat) (w : World) (da : Num w (.slice aO aL aC) ya) (la : ya.length ≤ 1000) (he : val ya = q) (hz : q ≠ 0) : Calls Tryz.prog 61 #[.agg #[.bool na, .slice ao al ac, .slice aO aL aC]] w fun e w' => Made' w.heap.size w (lim (und q).natAbs) e w' := by
 obtain ⟨W1, hW1⟩ : ∃ W1, W1 = w.alloc (.cells #[.bool na, .slice ao al ac, .slice aO aL aC] 27) := ⟨_, rfl⟩
 have qa : QCell W1 (w.heap.size) na (.slice ao al ac) (.slice aO aL aC) := by rw [hW1]; exact (qcell_new _ (by simp))
 have hb : Below w.heap.size w W1 := by rw [hW1]; exact belowA w _
 have hsz : w.heap.size < W1.heap.size := by rw [hW1]; simp
 replace da := da.below (Nat.le_refl _) hb
 have HW1 : Hid (W1 = w.alloc (.cells #[.bool na, .slice ao al ac, .slice aO aL aC] 27)) := hW1
 clear hW1
 go_enter Tryz.func61, Tryz.ntmps61
 go_wp2_with fail
 rw [← HW1.out]
 clear HW1
 obtain ⟨g, hg⟩ : ∃ g, g = w.heap.size := ⟨_, rfl⟩
 rw [← hg] at qa hsz ⊢
 have HG : Hid (g = w.heap.size) := hg
 clear hg
 obtain ⟨cqa0, cqa1, cqa2⟩ := qa.cells
 go_wp2_with fail
 clear cqa0 cqa1 cqa2
 have hq := norm_ref _ _ _ da (by omega)
 have hszz := hsz
 refine (hq).mono ?_
 rintro e w2 ⟨u, rfl, hu, b⟩
 clear hq
 obtain ⟨uo, ul, uc, rfl⟩ := hu.sl
 have hul := (num_len hu.num).1
 replace da := da.below (Nat.le_refl _) b
 replace qa := qa.below b
 replace hb := bstep hb b
 replace hsz := Nat.lt_of_lt_of_le hsz b.size
 clear b
 have hul0 : ((ul : Int) == 0) = false := nz_int2 (by rw [← hul, he]; exact lim_len_pos3 hz)
 clear hul
 obtain ⟨cqa0, cqa1, cqa2⟩ := qa.cells
 have HE : Hid (Made' w.heap.size w (lim (und q).natAbs) (.returned (.slice uo ul uc)) w2) := ⟨_, rfl, by rw [show (und q).natAbs = val ya by rw [he]; unfold und; rw [if_neg hz]; exact Int.natAbs_natCast q]; exact hu.mono (by have := HG.out; omega), hb⟩
 clear hb hsz hszz qa da hu
 go_wp2
 go_ret
 exact HE.out
theorem den3E {na : Bool} {ao aO : Option Addr} {al ac aL aC : Nat} {q L : Nat} {w : World} (h : NB w (.slice aO aL aC) (q : Int) L) (hL : L ≤ 1000) : Calls Tryz.prog 61 #[.agg #[.bool na, .slice ao al ac, .slice aO aL aC]] w fun e w' => Made' w.heap.size w (lim (und q).natAbs) e w' := by
 obtain ⟨o, l, c, xs, e, h1, h2, h3⟩ := h
 cases e
 have h3 : val xs = q := by omega
 by_cases hz : q = 0
 · exact den3E_no na ao _ al ac _ _ xs q w h1 (by omega) h3 hz
 · exact den3E_yes na ao _ al ac _ _ xs q w h1 (by omega) h3 hz
theorem over_rq {nb : Bool} {R k : Nat} (hR : R ≠ 0) : rq (zv nb (und k).natAbs) R = (rq (zv nb R) k)⁻¹ := by
 unfold rq
 have hu : und R = (R : Int) := by unfold und; rw [if_neg hR]
 have hk := und_pos k
 have e : ((und k).natAbs : Int) = und k := by omega
 rw [hu, Rat.inv_divInt]
 have hz : zv nb R ≠ 0 := by cases nb <;> simp [zv] <;> omega
 refine (Rat.divInt_eq_divInt_iff (by omega) hz).2 ?_
 cases nb
 ·
  show ((und k).natAbs : Int) * (R : Int) = und k * (R : Int)
  rw [e]
 ·
  show -((und k).natAbs : Int) * -(R : Int) = und k * (R : Int)
  rw [e, Int.neg_mul_neg]
theorem div3_yes {p r : Int} {q k L M : Nat} (na : Bool) (ao aO : Option Addr) (al ac aL aC : Nat) (nb : Bool) (bo bO : Option Addr) (bl bc bL bC : Nat) {w : World} (ia : IB w (.agg #[.bool na, .slice ao al ac]) p L) (da : NB w (.slice aO aL aC) (q : Int) L) (h1L : 1 ≤ L) (ib : IB w (.agg #[.bool nb, .slice bo bl bc]) r M) (db : NB w (.slice bO bL bC) (k : Int) M) (h1M : 1 ≤ M) (hL : L + M ≤ 140) (hy : r ≠ 0) : Calls Tryz.prog 28 #[.agg #[.bool na, .slice ao al ac, .slice aO aL aC], .agg #[.bool nb, .slice bo bl bc, .slice bO bL bC]] w fun e w' => RTEnd w (rq p q / rq r k) e w' := by
 obtain ⟨c, hc⟩ : ∃ c, c = sgnQ (rq r k) := ⟨_, rfl⟩
 have HC : Hid (sgnQ (rq r k) = c) := hc.symm
 have ib0 := ib
 obtain ⟨n9, o9, l9, c9, xb, e9, ub, lb, zb⟩ := ib
 cases e9
 obtain ⟨R0, hR0⟩ : ∃ R, R = val xb := ⟨_, rfl⟩
 rw [← hR0] at zb
 have hR : R0 ≠ 0 := fun e => hy (by rw [← zb, e]; cases nb <;> rfl)
 have hc0 : (c == 0) = false := by rw [hc, ← sgn_rq, cmpZ_eq]; exact decide_eq_false hy
 obtain ⟨Z, hZ⟩ : ∃ Z, Z = rq p q / rq r k := ⟨_, rfl⟩
 rw [← hZ]
 have HZ : Hid (rq p q * rq (zv nb (und k).natAbs) R0 = Z) := by show _ = _; rw [hZ, over_rq hR, zb, Rat.div_def]
 have HRB : Hid (R0 = val xb ∧ xb.length ≤ M) := ⟨hR0, lb⟩
 have hlk := (und_sz db.sz h1M).len
 clear hZ hR0 hR hc lb zb hy
 obtain ⟨W1, hW1⟩ : ∃ W1, W1 = ((w.alloc (.cells #[.bool na, .slice ao al ac, .slice aO aL aC] 27)).alloc (.cells #[.bool nb, .slice bo bl bc, .slice bO bL bC] 27)).alloc (.cells #[.bool false, .slice none 0 0, .slice none 0 0] 27) := ⟨_, rfl⟩
 have qa : QCell W1 (w.heap.size) na (.slice ao al ac) (.slice aO aL aC) := by rw [hW1]; exact (qcell_step (qcell_step (qcell_new _ (by simp))))
 have qb : QCell W1 (w.heap.size + 1) nb (.slice bo bl bc) (.slice bO bL bC) := by rw [hW1]; exact (qcell_step (qcell_new _ (by simp)))
 have qR : QCell W1 (w.heap.size + 1 + 1) false (.slice none 0 0) (.slice none 0 0) := by rw [hW1]; exact (qcell_new _ (by simp))
 have hb : Below w.heap.size w W1 := by rw [hW1]; exact bstep (bstep (belowA w _) (belowA _ _)) (belowA _ _)
 have hsz : w.heap.size + 1 + 1 < W1.heap.size := by rw [hW1]; simp
 replace ib0 := ib0.below hb
 replace db := db.below hb
 replace da := da.below hb
 replace ia := ia.below hb
 replace ub := ub.below (Nat.le_refl _) hb
 have HW1 : Hid (W1 = ((w.alloc (.cells #[.bool na, .slice ao al ac, .slice aO aL aC] 27)).alloc (.cells #[.bool nb, .slice bo bl bc, .slice bO bL bC] 27)).alloc (.cells #[.bool false, .slice none 0 0, .slice none 0 0] 27)) := hW1
 clear hW1
 go_enter Tryz.func28, Tryz.ntmps28
 go_wp2_with fail
 rw [← HW1.out]
 clear HW1
 obtain ⟨g, hg⟩ : ∃ g, g = w.heap.size := ⟨_, rfl⟩
 rw [← hg] at qa qb qR hsz ⊢
 have HG : Hid (g = w.heap.size) := hg
 clear hg
 obtain ⟨cqa0, cqa1, cqa2⟩ := qa.cells
 obtain ⟨cqb0, cqb1, cqb2⟩ := qb.cells
 obtain ⟨cqR0, cqR1, cqR2⟩ := qR.cells
 go_wp2_with fail
 clear cqa0 cqa1 cqa2 cqb0 cqb1 cqb2 cqR0 cqR1 cqR2
 have hs := sign3 (q := k) nb bo bO bl bc bL bC ib0 (by omega)
 rw [HC.out] at hs
 refine (hs).mono ?_
 rintro e w2 ⟨rfl, b⟩
 clear hs
 replace ia := ia.below b
 replace ub := ub.below (Nat.le_refl _) b
 replace da := da.below b
 replace db := db.below b
 replace ib0 := ib0.below b
 replace qa := qa.below b
 replace qb := qb.below b
 replace qR := qR.below b
 replace hb := bstep hb b
 replace hsz := Nat.lt_of_lt_of_le hsz b.size
 clear b
 obtain ⟨cqa0, cqa1, cqa2⟩ := qa.cells
 obtain ⟨cqb0, cqb1, cqb2⟩ := qb.cells
 obtain ⟨cqR0, cqR1, cqR2⟩ := qR.cells
 go_wp2_with fail
 clear cqa0 cqa1 cqa2 cqb0 cqb1 cqb2 cqR0 cqR1 cqR2
 go_cut [6] (fun t wx => ∃ vx xo xl xc, t = .pointer (some ⟨vx, 0, none⟩) ∧ QCell wx vx nb (.slice xo xl xc) (.slice bo bl bc) ∧ Num wx (.slice xo xl xc) (lim (und k).natAbs) ∧ Below w2.heap.size w2 wx)
 case first =>
  refine region_late [(2, fun w' => w'.cell? ⟨g + 1, 0, none⟩ = some (.bool nb)), (3, fun w' => w'.cell? ⟨g + 1, 0, none⟩ = some (.bool nb) ∧ w'.cell? ⟨g + 1, 1, none⟩ = some (.slice bo bl bc) ∧ w'.cell? ⟨g + 1, 2, none⟩ = some (.slice bO bL bC)), (8, fun w' => w'.cell? ⟨g + 1, 1, none⟩ = some (.slice bo bl bc))] (by kernel_rfl) ?_
  have hHeld : AllL w2.drew [(2, fun w' => w'.cell? ⟨g + 1, 0, none⟩ = some (.bool nb)), (3, fun w' => w'.cell? ⟨g + 1, 0, none⟩ = some (.bool nb) ∧ w'.cell? ⟨g + 1, 1, none⟩ = some (.slice bo bl bc) ∧ w'.cell? ⟨g + 1, 2, none⟩ = some (.slice bO bL bC)), (8, fun w' => w'.cell? ⟨g + 1, 1, none⟩ = some (.slice bo bl bc))] := ⟨(show QCell w2.drew (g + 1) nb (.slice bo bl bc) (.slice bO bL bC) from qb).cells.1, (show QCell w2.drew (g + 1) nb (.slice bo bl bc) (.slice bO bL bC) from qb).cells, (show QCell w2.drew (g + 1) nb (.slice bo bl bc) (.slice bO bL bC) from qb).cells.2.1, trivial⟩
  refine late_fr 0 (v := .pointer (some ⟨g + 1, 0, none⟩)) rfl (Or.inl ⟨by rfl, ?_⟩) hHeld ?_
  · (intro u _; go_simp)
  try simp only [pu1, pu2, pu3, pu4]
  refine late_fr 1 (v := .pointer (some ⟨g + 1, 0, none⟩)) rfl (Or.inl ⟨by rfl, ?_⟩) hHeld ?_
  · (intro u _; go_simp)
  try simp only [pu1, pu2, pu3, pu4]
  refine late_tk 2 (v := .bool nb) rfl (List.Mem.head _) (Or.inl ⟨by rfl, ?_⟩) hHeld ?_
  · (intro u hu; (try dsimp only at hu); go_split_ands; go_simp)
  try simp only [pu1, pu2, pu3, pu4]
  refine late_tk 3 (v := .agg #[.bool nb, .slice bo bl bc, .slice bO bL bC]) rfl (List.Mem.tail _ (List.Mem.head _)) (Or.inl ⟨by rfl, ?_⟩) hHeld ?_
  · (intro u hu; (try dsimp only at hu); go_split_ands; go_simp)
  try simp only [pu1, pu2, pu3, pu4]
  refine late_fr 6 (v := .pointer (some ⟨g + 1, 0, none⟩)) rfl (Or.inl ⟨by rfl, ?_⟩) hHeld ?_
  · (intro u _; go_simp)
  try simp only [pu1, pu2, pu3, pu4]
  refine late_fr 7 (v := .pointer (some ⟨g + 1, 1, none⟩)) rfl (Or.inl ⟨by rfl, ?_⟩) hHeld ?_
  · (intro u _; go_simp)
  try simp only [pu1, pu2, pu3, pu4]
  refine late_tk 8 (v := .slice bo bl bc) rfl (List.Mem.tail _ (List.Mem.tail _ (List.Mem.head _))) (Or.inl ⟨by rfl, ?_⟩) hHeld ?_
  · (intro u hu; (try dsimp only at hu); go_split_ands; go_simp)
  try simp only [pu1, pu2, pu3, pu4]
  refine late_two 4 10 (by kernel_rfl) rfl rfl (fun K hK => ?_) (fun K hK => ?_)
  ·
   go_simp
   have hq := den3E (na := nb) (ao := bo) (al := bl) (ac := bc) (db.below (below_drew' _)) (by omega)
   refine hq.mono ?_
   rintro e w3 ⟨m, rfl, hm, b3⟩
   clear hq
   obtain ⟨mo, ml, mc, rfl⟩ := hm.sl
   have B3 : Below w2.heap.size w2 w3 := bstep (below_drew' _) b3
   replace hHeld := AllL.mv (w' := w3) hHeld ⟨(qb.below B3).cells.1, (qb.below B3).cells, (qb.below B3).cells.2.1, trivial⟩
   go_wp2_with fail
   refine hK.out _ _ (AllL.kept hHeld) ?_
   clear hK K
   try simp only [pu1, pu2, pu3, pu4]
   refine late_two 5 10 (by kernel_rfl) rfl rfl (fun K hK => ?_) (fun K hK => ?_)
   ·
    go_simp
    refine hK.out _ _ (AllL.kept hHeld) ?_
    clear hK K
    try simp only [pu1, pu2, pu3, pu4]
    refine late_two 9 10 (by kernel_rfl) rfl rfl (fun K hK => ?_) (fun K hK => ?_)
    ·
     go_simp
     refine hK.out _ _ (AllL.kept hHeld) ?_
     clear hK K
     try simp only [pu1, pu2, pu3, pu4]
     refine late_st 10 rfl (fun K hK => ?_)
     go_simp
     obtain ⟨w4, hw4⟩ : ∃ u, u = w3.alloc (.cells #[.bool false, .slice none 0 0, .slice none 0 0] 27) := ⟨_, rfl⟩
     have hp : QCell w4 w3.heap.size false (.slice none 0 0) (.slice none 0 0) := by rw [hw4]; exact qcell_new _ rfl
     have b4 : Below w3.heap.size w3 w4 := by rw [hw4]; exact belowA _ _
     have B4 : Below w2.heap.size w2 w4 := bstep B3 b4
     rw [← hw4]
     obtain ⟨vx, hpv⟩ : ∃ v, v = w3.heap.size := ⟨_, rfl⟩
     have HPV : w2.heap.size ≤ vx := by rw [hpv]; exact B3.size
     have HPW : vx < w4.heap.size := by rw [hpv]; exact (Array.getElem?_eq_some_iff.1 hp).1
     have hne : (Value.slice mo ml mc).ownBlock = none ∨ (Value.slice mo ml mc).ownBlock ≠ some vx := (by rcases hu : (Value.slice mo ml mc).ownBlock with _ | k; exact .inl rfl; exact .inr fun e => by have h1 := (hm.block k hu).2; have h2 := Option.some.inj e; omega)
     replace hm := hm.below b4
     rw [← hpv] at hp ⊢
     clear hpv hw4
     replace hHeld := AllL.mv (w' := w4) hHeld ⟨(qb.below B4).cells.1, (qb.below B4).cells, (qb.below B4).cells.2.1, trivial⟩
     refine hK.out _ _ (AllL.kept hHeld) ?_
     clear hK K
     try simp only [pu1, pu2, pu3, pu4]
     have hm3 : Own _ 37 (((w4.setCell ⟨vx, 0, none⟩ (.bool nb)).setCell ⟨vx, 1, none⟩ (.slice mo ml mc)).setCell ⟨vx, 2, none⟩ (.slice bo bl bc)) (.slice mo ml mc) (lim (und k).natAbs) := ((hm.other _ hne).other _ hne).other _ hne
     have HIB : Hid (QCell (((w4.setCell ⟨vx, 0, none⟩ (.bool nb)).setCell ⟨vx, 1, none⟩ (.slice mo ml mc)).setCell ⟨vx, 2, none⟩ (.slice bo bl bc)) vx nb (.slice mo ml mc) (.slice bo bl bc) ∧ Num (((w4.setCell ⟨vx, 0, none⟩ (.bool nb)).setCell ⟨vx, 1, none⟩ (.slice mo ml mc)).setCell ⟨vx, 2, none⟩ (.slice bo bl bc)) (.slice mo ml mc) (lim (und k).natAbs) ∧ Below w2.heap.size w2 (((w4.setCell ⟨vx, 0, none⟩ (.bool nb)).setCell ⟨vx, 1, none⟩ (.slice mo ml mc)).setCell ⟨vx, 2, none⟩ (.slice bo bl bc))) := ⟨hp.write _ _ _, hm3.num, ((B4.setCell (p := ⟨vx, 0, none⟩) HPV _).setCell (p := ⟨vx, 1, none⟩) HPV _).setCell (p := ⟨vx, 2, none⟩) HPV _⟩
     obtain ⟨y0, y1, y2⟩ := hp.cells
     have f0 := hp.thaw 0
     have f1 := hp.thaw 1
     have f2 := hp.thaw 2
     clear hne hm hm3 hp HPW HPV
     refine late_st 11 rfl (fun K hK => ?_)
     go_simp
     refine hK.out _ _ ⟨kpt 5, kpt 4, kpt 9, trivial⟩ ?_
     clear hK K
     try simp only [pu1, pu2, pu3, pu4]
     refine late_done (by kernel_rfl) ?_ _
     clear hHeld y0 y1 y2 f0 f1 f2
     go_wp2_with fail
     go_meet
     exact ⟨_, _, _, _, rfl, HIB.out.1, HIB.out.2.1, HIB.out.2.2⟩
    ·
     go_simp
     obtain ⟨w5, hw5⟩ : ∃ u, u = w3.alloc (.cells #[.bool false, .slice none 0 0, .slice none 0 0] 27) := ⟨_, rfl⟩
     have hp : QCell w5 w3.heap.size false (.slice none 0 0) (.slice none 0 0) := by rw [hw5]; exact qcell_new _ rfl
     have b5 : Below w3.heap.size w3 w5 := by rw [hw5]; exact belowA _ _
     have B5 : Below w2.heap.size w2 w5 := bstep B3 b5
     rw [← hw5]
     obtain ⟨vx, hpv⟩ : ∃ v, v = w3.heap.size := ⟨_, rfl⟩
     have HPV : w2.heap.size ≤ vx := by rw [hpv]; exact B3.size
     have HPW : vx < w5.heap.size := by rw [hpv]; exact (Array.getElem?_eq_some_iff.1 hp).1
     have hne : (Value.slice mo ml mc).ownBlock = none ∨ (Value.slice mo ml mc).ownBlock ≠ some vx := (by rcases hu : (Value.slice mo ml mc).ownBlock with _ | k; exact .inl rfl; exact .inr fun e => by have h1 := (hm.block k hu).2; have h2 := Option.some.inj e; omega)
     replace hm := hm.below b5
     rw [← hpv] at hp ⊢
     clear hpv hw5
     replace hHeld := AllL.mv (w' := w5) hHeld ⟨(qb.below B5).cells.1, (qb.below B5).cells, (qb.below B5).cells.2.1, trivial⟩
     refine hK.out _ _ (AllL.kept hHeld) ?_
     clear hK K
     try simp only [pu1, pu2, pu3, pu4]
     refine late_st 9 rfl (fun K hK => ?_)
     go_simp
     refine hK.out _ _ (AllL.kept hHeld) ?_
     clear hK K
     try simp only [pu1, pu2, pu3, pu4]
     have hm3 : Own _ 37 (((w5.setCell ⟨vx, 0, none⟩ (.bool nb)).setCell ⟨vx, 1, none⟩ (.slice mo ml mc)).setCell ⟨vx, 2, none⟩ (.slice bo bl bc)) (.slice mo ml mc) (lim (und k).natAbs) := ((hm.other _ hne).other _ hne).other _ hne
     have HIB : Hid (QCell (((w5.setCell ⟨vx, 0, none⟩ (.bool nb)).setCell ⟨vx, 1, none⟩ (.slice mo ml mc)).setCell ⟨vx, 2, none⟩ (.slice bo bl bc)) vx nb (.slice mo ml mc) (.slice bo bl bc) ∧ Num (((w5.setCell ⟨vx, 0, none⟩ (.bool nb)).setCell ⟨vx, 1, none⟩ (.slice mo ml mc)).setCell ⟨vx, 2, none⟩ (.slice bo bl bc)) (.slice mo ml mc) (lim (und k).natAbs) ∧ Below w2.heap.size w2 (((w5.setCell ⟨vx, 0, none⟩ (.bool nb)).setCell ⟨vx, 1, none⟩ (.slice mo ml mc)).setCell ⟨vx, 2, none⟩ (.slice bo bl bc))) := ⟨hp.write _ _ _, hm3.num, ((B5.setCell (p := ⟨vx, 0, none⟩) HPV _).setCell (p := ⟨vx, 1, none⟩) HPV _).setCell (p := ⟨vx, 2, none⟩) HPV _⟩
     obtain ⟨y0, y1, y2⟩ := hp.cells
     have f0 := hp.thaw 0
     have f1 := hp.thaw 1
     have f2 := hp.thaw 2
     clear hne hm hm3 hp HPW HPV
     refine late_st 11 rfl (fun K hK => ?_)
     go_simp
     refine hK.out _ _ ⟨kpt 5, kpt 4, kpt 9, trivial⟩ ?_
     clear hK K
     try simp only [pu1, pu2, pu3, pu4]
     refine late_done (by kernel_rfl) ?_ _
     clear hHeld y0 y1 y2 f0 f1 f2
     go_wp2_with fail
     go_meet
     exact ⟨_, _, _, _, rfl, HIB.out.1, HIB.out.2.1, HIB.out.2.2⟩
   ·
    go_simp
    obtain ⟨w6, hw6⟩ : ∃ u, u = w3.alloc (.cells #[.bool false, .slice none 0 0, .slice none 0 0] 27) := ⟨_, rfl⟩
    have hp : QCell w6 w3.heap.size false (.slice none 0 0) (.slice none 0 0) := by rw [hw6]; exact qcell_new _ rfl
    have b6 : Below w3.heap.size w3 w6 := by rw [hw6]; exact belowA _ _
    have B6 : Below w2.heap.size w2 w6 := bstep B3 b6
    rw [← hw6]
    obtain ⟨vx, hpv⟩ : ∃ v, v = w3.heap.size := ⟨_, rfl⟩
    have HPV : w2.heap.size ≤ vx := by rw [hpv]; exact B3.size
    have HPW : vx < w6.heap.size := by rw [hpv]; exact (Array.getElem?_eq_some_iff.1 hp).1
    have hne : (Value.slice mo ml mc).ownBlock = none ∨ (Value.slice mo ml mc).ownBlock ≠ some vx := (by rcases hu : (Value.slice mo ml mc).ownBlock with _ | k; exact .inl rfl; exact .inr fun e => by have h1 := (hm.block k hu).2; have h2 := Option.some.inj e; omega)
    replace hm := hm.below b6
    rw [← hpv] at hp ⊢
    clear hpv hw6
    replace hHeld := AllL.mv (w' := w6) hHeld ⟨(qb.below B6).cells.1, (qb.below B6).cells, (qb.below B6).cells.2.1, trivial⟩
    refine hK.out _ _ (AllL.kept hHeld) ?_
    clear hK K
    try simp only [pu1, pu2, pu3, pu4]
    refine late_st 5 rfl (fun K hK => ?_)
    go_simp
    refine hK.out _ _ (AllL.kept hHeld) ?_
    clear hK K
    try simp only [pu1, pu2, pu3, pu4]
    refine late_st 9 rfl (fun K hK => ?_)
    go_simp
    refine hK.out _ _ (AllL.kept hHeld) ?_
    clear hK K
    try simp only [pu1, pu2, pu3, pu4]
    have hm3 : Own _ 37 (((w6.setCell ⟨vx, 0, none⟩ (.bool nb)).setCell ⟨vx, 1, none⟩ (.slice mo ml mc)).setCell ⟨vx, 2, none⟩ (.slice bo bl bc)) (.slice mo ml mc) (lim (und k).natAbs) := ((hm.other _ hne).other _ hne).other _ hne
    have HIB : Hid (QCell (((w6.setCell ⟨vx, 0, none⟩ (.bool nb)).setCell ⟨vx, 1, none⟩ (.slice mo ml mc)).setCell ⟨vx, 2, none⟩ (.slice bo bl bc)) vx nb (.slice mo ml mc) (.slice bo bl bc) ∧ Num (((w6.setCell ⟨vx, 0, none⟩ (.bool nb)).setCell ⟨vx, 1, none⟩ (.slice mo ml mc)).setCell ⟨vx, 2, none⟩ (.slice bo bl bc)) (.slice mo ml mc) (lim (und k).natAbs) ∧ Below w2.heap.size w2 (((w6.setCell ⟨vx, 0, none⟩ (.bool nb)).setCell ⟨vx, 1, none⟩ (.slice mo ml mc)).setCell ⟨vx, 2, none⟩ (.slice bo bl bc))) := ⟨hp.write _ _ _, hm3.num, ((B6.setCell (p := ⟨vx, 0, none⟩) HPV _).setCell (p := ⟨vx, 1, none⟩) HPV _).setCell (p := ⟨vx, 2, none⟩) HPV _⟩
    obtain ⟨y0, y1, y2⟩ := hp.cells
    have f0 := hp.thaw 0
    have f1 := hp.thaw 1
    have f2 := hp.thaw 2
    clear hne hm hm3 hp HPW HPV
    refine late_st 11 rfl (fun K hK => ?_)
    go_simp
    refine hK.out _ _ ⟨kpt 5, kpt 4, kpt 9, trivial⟩ ?_
    clear hK K
    try simp only [pu1, pu2, pu3, pu4]
    refine late_done (by kernel_rfl) ?_ _
    clear hHeld y0 y1 y2 f0 f1 f2
    go_wp2_with fail
    go_meet
    exact ⟨_, _, _, _, rfl, HIB.out.1, HIB.out.2.1, HIB.out.2.2⟩
  ·
   go_simp
   obtain ⟨w7, hw7⟩ : ∃ u, u = (w2.alloc (.cells #[.bool false, .slice none 0 0, .slice none 0 0] 27)).drew := ⟨_, rfl⟩
   have hp : QCell w7 w2.heap.size false (.slice none 0 0) (.slice none 0 0) := by rw [hw7]; exact qcell_new _ rfl
   have b7 : Below w2.drew.heap.size w2.drew w7 := by rw [hw7]; exact belowA w2.drew _
   have B7 : Below w2.heap.size w2 w7 := bstep (below_drew' _) b7
   rw [← hw7]
   obtain ⟨vx, hpv⟩ : ∃ v, v = w2.heap.size := ⟨_, rfl⟩
   have HPV : w2.heap.size ≤ vx := by rw [hpv]; exact Nat.le_refl _
   have HPW : vx < w7.heap.size := by rw [hpv]; exact (Array.getElem?_eq_some_iff.1 hp).1
   rw [← hpv] at hp ⊢
   clear hpv hw7
   replace hHeld := AllL.mv (w' := w7) hHeld ⟨(qb.below B7).cells.1, (qb.below B7).cells, (qb.below B7).cells.2.1, trivial⟩
   refine hK.out _ _ (AllL.kept hHeld) ?_
   clear hK K
   try simp only [pu1, pu2, pu3, pu4]
   refine late_st 4 rfl (fun K hK => ?_)
   go_simp
   have hq := den3E (na := nb) (ao := bo) (al := bl) (ac := bc) ((db.below (below_drew' _)).below b7) (by omega)
   refine hq.mono ?_
   rintro e w8 ⟨m, rfl, hm, b8⟩
   clear hq
   obtain ⟨mo, ml, mc, rfl⟩ := hm.sl
   have hne : (Value.slice mo ml mc).ownBlock = none ∨ (Value.slice mo ml mc).ownBlock ≠ some vx := (by rcases hu : (Value.slice mo ml mc).ownBlock with _ | k; exact .inl rfl; exact .inr fun e => by have h1 := (hm.block k hu).1; have h2 := Option.some.inj e; omega)
   have B8 : Below w2.heap.size w2 w8 := bstep B7 b8
   replace hHeld := AllL.mv (w' := w8) hHeld ⟨(qb.below B8).cells.1, (qb.below B8).cells, (qb.below B8).cells.2.1, trivial⟩
   go_wp2_with fail
   refine hK.out _ _ (AllL.kept hHeld) ?_
   clear hK K
   try simp only [pu1, pu2, pu3, pu4]
   replace hp := hp.below b8
   replace HPW : vx < w8.heap.size := Nat.lt_of_lt_of_le HPW b8.size
   refine late_st 5 rfl (fun K hK => ?_)
   go_simp
   refine hK.out _ _ (AllL.kept hHeld) ?_
   clear hK K
   try simp only [pu1, pu2, pu3, pu4]
   refine late_st 9 rfl (fun K hK => ?_)
   go_simp
   refine hK.out _ _ (AllL.kept hHeld) ?_
   clear hK K
   try simp only [pu1, pu2, pu3, pu4]
   have hm3 : Own _ 37 (((w8.setCell ⟨vx, 0, none⟩ (.bool nb)).setCell ⟨vx, 1, none⟩ (.slice mo ml mc)).setCell ⟨vx, 2, none⟩ (.slice bo bl bc)) (.slice mo ml mc) (lim (und k).natAbs) := ((hm.other _ hne).other _ hne).other _ hne
   have HIB : Hid (QCell (((w8.setCell ⟨vx, 0, none⟩ (.bool nb)).setCell ⟨vx, 1, none⟩ (.slice mo ml mc)).setCell ⟨vx, 2, none⟩ (.slice bo bl bc)) vx nb (.slice mo ml mc) (.slice bo bl bc) ∧ Num (((w8.setCell ⟨vx, 0, none⟩ (.bool nb)).setCell ⟨vx, 1, none⟩ (.slice mo ml mc)).setCell ⟨vx, 2, none⟩ (.slice bo bl bc)) (.slice mo ml mc) (lim (und k).natAbs) ∧ Below w2.heap.size w2 (((w8.setCell ⟨vx, 0, none⟩ (.bool nb)).setCell ⟨vx, 1, none⟩ (.slice mo ml mc)).setCell ⟨vx, 2, none⟩ (.slice bo bl bc))) := ⟨hp.write _ _ _, hm3.num, ((B8.setCell (p := ⟨vx, 0, none⟩) HPV _).setCell (p := ⟨vx, 1, none⟩) HPV _).setCell (p := ⟨vx, 2, none⟩) HPV _⟩
   obtain ⟨y0, y1, y2⟩ := hp.cells
   have f0 := hp.thaw 0
   have f1 := hp.thaw 1
   have f2 := hp.thaw 2
   clear hne hm hm3 hp HPW HPV
   refine late_st 11 rfl (fun K hK => ?_)
   go_simp
   refine hK.out _ _ ⟨kpt 5, kpt 4, kpt 9, trivial⟩ ?_
   clear hK K
   try simp only [pu1, pu2, pu3, pu4]
   refine late_done (by kernel_rfl) ?_ _
   clear hHeld y0 y1 y2 f0 f1 f2
   go_wp2_with fail
   go_meet
   exact ⟨_, _, _, _, rfl, HIB.out.1, HIB.out.2.1, HIB.out.2.2⟩
 case rest =>
  obtain ⟨vx, xo, xl, xc, rfl, qx, ux, b⟩ := hcut
  replace ia := ia.below b
  replace ub := ub.below (Nat.le_refl _) b
  replace da := da.below b
  replace db := db.below b
  replace ib0 := ib0.below b
  replace qa := qa.below b
  replace qb := qb.below b
  replace qR := qR.below b
  replace hb := bstep hb b
  replace hsz := Nat.lt_of_lt_of_le hsz b.size
  clear b
  obtain ⟨cqa0, cqa1, cqa2⟩ := qa.cells
  obtain ⟨cqb0, cqb1, cqb2⟩ := qb.cells
  obtain ⟨cqR0, cqR1, cqR2⟩ := qR.cells
  obtain ⟨cqx0, cqx1, cqx2⟩ := qx.cells
  go_wp2_with fail
  clear cqa0 cqa1 cqa2 cqb0 cqb1 cqb2 cqR0 cqR1 cqR2 cqx0 cqx1 cqx2
  have hq := mul3 (p := p) (r := zv nb (und k).natAbs) (q := q) (k := R0) na ao aO al ac aL aC nb xo bo xl xc bl bc ia da h1L ⟨_, _, _, _, _, rfl, ux, hlk, by rw [val_lim]⟩ ⟨_, _, _, _, rfl, ub, HRB.out.2, by rw [← HRB.out.1]⟩ h1M (by omega)
  rw [HZ.out] at hq
  have hszz := hsz
  refine (hq).mono ?_
  rintro e w9 ⟨v, rfl, hv, b⟩
  clear hq
  obtain ⟨m, d, rfl, hm, hd, hap⟩ := hv
  obtain ⟨mo, ml, mc, rfl⟩ := hm.sl
  obtain ⟨mO, mL, mC, rfl⟩ := hd.sl
  replace ia := ia.below b
  replace ub := ub.below (Nat.le_refl _) b
  replace da := da.below b
  replace db := db.below b
  replace ib0 := ib0.below b
  replace ux := ux.below (Nat.le_refl _) b
  replace qa := qa.below b
  replace qb := qb.below b
  replace qR := qR.below b
  replace qx := qx.below b
  replace hb := bstep hb b
  replace hsz := Nat.lt_of_lt_of_le hsz b.size
  clear b
  have qq := qR
  have HE : Hid (REnd w Z (.returned (.agg #[.bool (decide (Z.num < 0)), .slice mo ml mc, .slice mO mL mC])) (((w9.setCell ⟨g + 1 + 1, 0, none⟩ (.bool (decide (Z.num < 0)))).setCell ⟨g + 1 + 1, 1, none⟩ (.slice mo ml mc)).setCell ⟨g + 1 + 1, 2, none⟩ (.slice mO mL mC))) := rat_done rfl (by rw [HG.out]; omega) hm hd hap hszz (hb)
  have HW : Hid (QCell (((w9.setCell ⟨g + 1 + 1, 0, none⟩ (.bool (decide (Z.num < 0)))).setCell ⟨g + 1 + 1, 1, none⟩ (.slice mo ml mc)).setCell ⟨g + 1 + 1, 2, none⟩ (.slice mO mL mC)) (g + 1 + 1) (decide (Z.num < 0)) (.slice mo ml mc) (.slice mO mL mC)) := qq.write _ _ _
  obtain ⟨y0, y1, y2⟩ := qq.cells
  have f0 := qq.thaw 0
  have f1 := qq.thaw 1
  have f2 := qq.thaw 2
  generalize decide (Z.num < 0) = bb at *
  clear qq hap
  clear hb hsz hszz hm hd qa qb qR qx ia ub da db ib0 ux hlk
  go_wp2_with fail
  (try simp only [Exit.inBlock, Exit.then])
  exact bodyPost_ret (results_ct (p := 4) (u := 5) rfl _ _ (g + 1 + 1) 27 _ (0, 0) _ rfl HW.out Tryz.underlying27 rfl (by kernel_rfl)) rfl HE.out.t
open Go.RowKit
attribute [local go_sem ↓] Go.wp_at_zero Go.wp_at_succ

theorem modZ_le (a b : Nat) : modZ a b ≤ a := by
 unfold modZ
 split
 · exact Nat.zero_le _
 · exact Nat.mod_le _ _
theorem own_apart3 {B e : Nat} {w w' : World} {m m' : Value} {xs ys : List Nat} (h : Own B e w m xs) (h' : Own w.heap.size e w' m' ys) : m.ownBlock = none ∨ m.ownBlock ≠ m'.ownBlock := by
 cases hm : m.ownBlock with
 | none => exact Or.inl rfl
 | some k =>
  right
  intro e9
  have h1 := (h.block k hm).2
  have h2 := (h'.block k e9.symm).1
  omega
theorem rquo {a b : Value} {x y : Int} {L M : Nat} {w : World} (hia : IB w a x L) (hib : IB w b y M) (hL : L + M ≤ 1000) : Calls Tryz.prog 94 #[a, b] w fun e w' => QEnd w (x.tdiv y) (rz x y) (errZ y.natAbs) e w' := by
 have hlx := hia.sz.len
 obtain ⟨na, ao, al, ac, xs, rfl, ux, la, zx⟩ := hia
 obtain ⟨nb, bo, bl, bc, ys, rfl, uy, lb, zy⟩ := hib
 have vy : val ys = y.natAbs := by rw [← zy, zv_abs]
 obtain ⟨W1, hW1⟩ : ∃ W1, W1 = (((w.alloc (.cells #[.bool na, .slice ao al ac] 25)).alloc (.cells #[.bool nb, .slice bo bl bc] 25)).alloc (.cells #[.bool false, .slice none 0 0] 25)).alloc (.cells #[.bool false, .slice none 0 0] 25) := ⟨_, rfl⟩
 have q0 : ICell W1 (w.heap.size) na (.slice ao al ac) := by rw [hW1]; exact (icell_step (icell_step (icell_step (icell_new _ (by simp)))))
 have q1 : ICell W1 (w.heap.size + 1) nb (.slice bo bl bc) := by rw [hW1]; exact (icell_step (icell_step (icell_new _ (by simp))))
 have q2 : ICell W1 (w.heap.size + 1 + 1) false (.slice none 0 0) := by rw [hW1]; exact (icell_step (icell_new _ (by simp)))
 have q3 : ICell W1 (w.heap.size + 1 + 1 + 1) false (.slice none 0 0) := by rw [hW1]; exact (icell_new _ (by simp))
 have hb : Below w.heap.size w W1 := by rw [hW1]; exact bstep (bstep (bstep (belowA w _) (belowA _ _)) (belowA _ _)) (belowA _ _)
 have hsz : w.heap.size + 1 + 1 + 1 < W1.heap.size := by rw [hW1]; simp
 replace ux := ux.below (Nat.le_refl _) hb
 replace uy := uy.below (Nat.le_refl _) hb
 have HW1 : Hid (W1 = (((w.alloc (.cells #[.bool na, .slice ao al ac] 25)).alloc (.cells #[.bool nb, .slice bo bl bc] 25)).alloc (.cells #[.bool false, .slice none 0 0] 25)).alloc (.cells #[.bool false, .slice none 0 0] 25)) := hW1
 clear hW1
 obtain ⟨c0, d0⟩ := q0.cells
 obtain ⟨c1, d1⟩ := q1.cells
 obtain ⟨Q, hQ⟩ : ∃ Q, Q = x.tdiv y := ⟨_, rfl⟩
 obtain ⟨R, hR⟩ : ∃ R, R = rz x y := ⟨_, rfl⟩
 have HQ : Hid (Q = x.tdiv y) := hQ
 have HR : Hid (R = rz x y) := hR
 rw [← hQ, ← hR]
 clear hQ hR
 obtain ⟨E, hE⟩ : ∃ E, E = errZ y.natAbs := ⟨_, rfl⟩
 have HEE : Hid (E = errZ y.natAbs) := hE
 rw [← hE]
 clear hE
 have HY : Hid (val ys = y.natAbs) := vy
 have HZX : Hid (zv na (val xs) = x) := zx
 have HZY : Hid (zv nb (val ys) = y) := zy
 clear vy zx zy
 go_enter Tryz.func94, Tryz.ntmps94
 go_wp2_with fail
 rw [← HW1.out]
 clear HW1
 obtain ⟨g, hg⟩ : ∃ g, g = w.heap.size := ⟨_, rfl⟩
 rw [← hg] at q0 q1 q2 q3 hsz ⊢
 have HG : Hid (g = w.heap.size) := hg
 clear hg
 refine (divMod_ref _ _ _ _ _ ux uy (by omega) (by omega)).mono ?_
 rintro e w2 ⟨q, r, rfl, hq, hr, hb2⟩
 obtain ⟨qo, ql, qc, rfl⟩ := hq.sl
 obtain ⟨ro, rl, rc, rfl⟩ := hr.sl
 rw [HY.out, ← HEE.out]
 replace q0 := q0.below hb2
 replace q1 := q1.below hb2
 replace q2 := q2.below hb2
 replace q3 := q3.below hb2
 replace hb := bstep hb hb2
 have HSZ : Hid (g + 1 + 1 + 1 < W1.heap.size) := hsz
 have HS2 : Hid (W1.heap.size ≤ w2.drew.heap.size) := hb2.size
 clear c0 d0 c1 d1 ux uy hsz hb2
 obtain ⟨c0, d0⟩ := q0.cells
 obtain ⟨c1, d1⟩ := q1.cells
 obtain ⟨c2, d2⟩ := q2.cells
 obtain ⟨c3, d3⟩ := q3.cells
 have f20 := q2.thaw 0
 have f21 := q2.thaw 1
 have f30 := q3.thaw 0
 have f31 := q3.thaw 1
 by_cases hy : y.natAbs = 0
 ·
  have HZ0 : Hid (Q = 0 ∧ R = 0 ∧ E = 11) := by
   have h0 : y = 0 := by omega
   refine ⟨by rw [HQ.out, h0]; exact Int.tdiv_zero _, by rw [HR.out]; unfold rz; rw [if_pos h0], by rw [HEE.out, hy]; rfl⟩
  obtain ⟨hQ0, hR0, hE0⟩ := HZ0.out
  subst hQ0
  subst hR0
  subst hE0
  have HW := icell_two (k1 := false) (k2 := false) (v1 := .slice none 0 0) (v2 := .slice none 0 0) q2 q3 (by omega)
  have HW2 : Hid _ := HW
  have HE0 := quo_done (w := w) (q := 0) (r := 0) (er := 11) (B := W1.heap.size) (mq := .slice none 0 0) (mr := .slice none 0 0) (g := g + 1 + 1) (g2 := g + 1 + 1 + 1) (v0 := .bool false) (v1 := .slice none 0 0) (u0 := .bool false) (u1 := .slice none 0 0) (Own.of_nil _ _ _) (Own.of_nil _ _ _) (Or.inl rfl) (by rw [HG.out]; omega) (by rw [HG.out]; omega) (by have := HSZ.out; omega) HSZ.out hb
  rw [show decide ((0 : Int) < 0) = false from rfl] at HE0
  have HE : Hid _ := HE0
  clear HE0
  clear HW q0 q1 q2 q3 hb hq hr hy c0 d0 c1 d1 HZ0
  go_wp2_with fail
  (try simp only [Exit.inBlock, Exit.then])
  exact bodyPost_ret (results_cct (p := 4) (q := 5) (u := 6) rfl _ _ (g + 1 + 1) (g + 1 + 1 + 1) 25 25 _ _ (0, 0) (0, 0) _ rfl rfl HW2.out.1 HW2.out.2 Tryz.underlying25 rfl (by kernel_rfl) (by kernel_rfl)) rfl HE.out
 ·
  have HZ1 : Hid (E = 0 ∧ zv (na != nb) (x.natAbs / y.natAbs) = Q ∧ zv na (modZ x.natAbs y.natAbs) = R) := by
   have hxa : val xs = x.natAbs := by rw [← HZX.out, zv_abs]
   refine ⟨by rw [HEE.out]; unfold errZ; rw [if_neg hy], ?_, ?_⟩
   · rw [HQ.out, ← hxa, ← HY.out, ← HZX.out, ← HZY.out]; exact zv_div na nb _ _
   · rw [HR.out, ← hxa, ← HY.out, zv_mod na nb _ _ (by rw [HY.out]; exact hy), HZX.out, HZY.out]
  have hxa : val xs = x.natAbs := by rw [← HZX.out, zv_abs]
  rw [hxa, HY.out] at hq hr
  clear hxa
  obtain ⟨hE0, hQ1, hR1⟩ := HZ1.out
  subst hE0
  have HQ1 : Hid (zv (na != nb) (x.natAbs / y.natAbs) = Q) := hQ1
  have HR1 : Hid (zv na (modZ x.natAbs y.natAbs) = R) := hR1
  clear hQ1 hR1 hy HZ1
  obtain ⟨nn, hnn⟩ : ∃ nn, (na != nb) = nn := ⟨_, rfl⟩
  rw [hnn] at HQ1
  have hnn3 : (na == nb) = !nn := by rw [← hnn]; cases na <;> cases nb <;> rfl
  have hlq : (lim (x.natAbs / y.natAbs)).length ≤ 1000 := lim_len_mono3 (Nat.div_le_self _ _) (by omega)
  have hlr : (lim (modZ x.natAbs y.natAbs)).length ≤ 1000 := lim_len_mono3 (modZ_le _ _) (by omega)
  clear hlx la lb
  go_wp2_with fail
  have hne1 : ¬ g = g + 1 + 1 := by omega
  have hne2 : ¬ g = g + 1 + 1 + 1 := by omega
  have hne3 : ¬ g + 1 = g + 1 + 1 + 1 := by omega
  have HQR : Hid (ICell w2.drew (g + 1 + 1) false (.slice none 0 0) ∧ ICell w2.drew (g + 1 + 1 + 1) false (.slice none 0 0)) := ⟨q2, q3⟩
  clear q0 q1 q2 q3 c2 d2 c3 d3 f20 f21 f30 f31
  go_region_held3 (fun w' => w'.cell? ⟨g, 0, none⟩ = some (.bool na) ∧ w'.cell? ⟨g + 1, 0, none⟩ = some (.bool nb)) (((try dsimp only); go_split_ands; refine ⟨?_, ?_⟩ <;> first | exact keepB (by with_reducible assumption) (by with_reducible assumption) | exact keepS (by omega) (by with_reducible assumption) | go_keep)) (first
   | (go_at_call_of 108 qo; have hm1 := make_ref nn _ _ _ (hq.num.same (w' := w2.drew) rfl) (by omega); rw [val_lim, HQ1.out] at hm1; refine hm1.mono ?_; rintro e w3 ⟨v, rfl, ⟨m, rfl, hmq⟩, hb3⟩; obtain ⟨mo, ml, mc, rfl⟩ := hmq.sl)
   | (go_at_call_of 108 ro; have hm2 := make_ref na _ _ _ ((hr.num.same (w' := w2.drew) rfl).below (Nat.le_refl _) hb3) (by omega); rw [val_lim, HR1.out] at hm2; refine hm2.mono ?_; rintro e w4 ⟨v, rfl, ⟨m, rfl, hmr⟩, hb4⟩; obtain ⟨no, nl, nc, rfl⟩ := hmr.sl; have q2' := (HQR.out.1.below hb3).below hb4; have q3' := (HQR.out.2.below hb3).below hb4; have y20 := q2'.cells.1; have y21 := q2'.cells.2; have y30 := q3'.cells.1; have y31 := q3'.cells.2; have f20 := q2'.thaw 0; have f21 := q2'.thaw 1; have f30 := q3'.thaw 0; have f31 := q3'.thaw 1))
  have HW := icell_two (k1 := decide (Q < 0)) (k2 := decide (R < 0)) (v1 := .slice mo ml mc) (v2 := .slice no nl nc) q2' q3' (by omega)
  have HW2 : Hid _ := HW
  have hqr := own_apart3 hmq hmr
  have hs2 : W1.heap.size ≤ w2.drew.heap.size := HS2.out
  have HE : Hid (QEnd w Q R 0 _ _) := quo_done (w := w) (B := W1.heap.size) (q := Q) (r := R) (er := 0) (g := g + 1 + 1) (g2 := g + 1 + 1 + 1) (v0 := .bool (decide (Q < 0))) (v1 := .slice mo ml mc) (u0 := .bool (decide (R < 0))) (u1 := .slice no nl nc) ((hmq.mono hs2).below hb4) (hmr.mono (Nat.le_trans hs2 hb3.size)) hqr (by rw [HG.out]; omega) (by rw [HG.out]; omega) (by have := HSZ.out; omega) HSZ.out (bstep (bstep (bstep hb (below_drew' _)) hb3) hb4)
  generalize decide (Q < 0) = bQ at *
  generalize decide (R < 0) = bR at *
  clear hq hr hqr hmq hmr hs2 hb3 hb4 hb HW q2' q3' y20 y21 y30 y31 f20 f21 f30 f31 c0 c1 d0 d1
  go_wp2_with fail
  (try simp only [Exit.inBlock, Exit.then])
  exact bodyPost_ret (results_cct (p := 4) (q := 5) (u := 6) rfl _ _ (g + 1 + 1) (g + 1 + 1 + 1) 25 25 _ _ (0, 0) (0, 0) _ rfl rfl HW2.out.1 HW2.out.2 Tryz.underlying25 rfl (by kernel_rfl) (by kernel_rfl)) rfl HE.out
open Go.RowKit
attribute [local go_sem ↓] Go.wp_at_zero Go.wp_at_succ

theorem own_ne3 {B e g : Nat} {w : World} {m : Value} {xs : List Nat} (h : Own B e w m xs) (hg : g < B) : m.ownBlock = none ∨ m.ownBlock ≠ some g := by
 cases hm : m.ownBlock with
 | none => exact Or.inl rfl
 | some k =>
  right
  intro e9
  have h1 := (h.block k hm).1
  rw [Option.some.injEq] at e9
  omega
theorem own_ne_top {B e : Nat} {w : World} {m : Value} {xs : List Nat} (h : Own B e w m xs) : m.ownBlock = none ∨ m.ownBlock ≠ some w.heap.size := by
 cases hm : m.ownBlock with
 | none => exact Or.inl rfl
 | some k =>
  right
  intro e9
  have h1 := (h.block k hm).2
  rw [Option.some.injEq] at e9
  omega
theorem own_put {B e g : Nat} {w : World} {m v0 v1 : Value} {xs : List Nat} (h : Own B e w m xs) (hne : m.ownBlock = none ∨ m.ownBlock ≠ some g) : Own B e ((w.setCell ⟨g, 0, none⟩ v0).setCell ⟨g, 1, none⟩ v1) m xs := (h.other v0 hne).other v1 hne
theorem icell_put {w : World} {g g2 : Nat} {n : Bool} {m v0 v1 : Value} (h : ICell w g n m) (hne : g ≠ g2) : ICell ((w.setCell ⟨g2, 0, none⟩ v0).setCell ⟨g2, 1, none⟩ v1) g n m := (h.other hne 0 v0).other hne 1 v1
theorem up_iff (R : Int) {y : Int} (hy : ¬ y = 0) : cmpZ R 0 * cmpZ y 0 < 0 ↔ cmpZ R 0 ≠ 0 ∧ cmpZ R 0 ≠ cmpZ y 0 := by
 have h2 : cmpZ y 0 ≠ 0 := by
  intro h
  have h9 := cmpZ_eq y 0
  rw [h, decide_eq_false hy] at h9
  exact absurd h9 (by decide)
 rcases cmpZ_bd R 0 with h | h | h <;> rcases cmpZ_bd y 0 with h3 | h3 | h3 <;> rw [h, h3] <;> first | exact absurd h3 h2 | decide
theorem rfloor {a b : Value} {x y : Int} {L M : Nat} {w : World} (hia : IB w a x L) (hib : IB w b y M) (hL : L + M ≤ 1000) : Calls Tryz.prog 59 #[a, b] w fun e w' => QEnd w (fq x y) (fr x y) (errZ y.natAbs) e w' := by
 have ha := hia.num (by omega)
 have hb' := hib.num (by omega)
 obtain ⟨na, ao, al, ac, xa, rfl, ua, la, za⟩ := ha
 have ha : INum w (.agg #[.bool na, .slice ao al ac]) x := ⟨_, _, _, _, _, rfl, ua, la, za⟩
 clear ua la za
 obtain ⟨nb, bo, bl, bc, xb, rfl, ub, lb, zb⟩ := hb'
 have hb' : INum w (.agg #[.bool nb, .slice bo bl bc]) y := ⟨_, _, _, _, _, rfl, ub, lb, zb⟩
 clear ub lb zb
 have hib0 := hib
 obtain ⟨W1, hW1⟩ : ∃ W1, W1 = (((w.alloc (.cells #[.bool na, .slice ao al ac] 25)).alloc (.cells #[.bool nb, .slice bo bl bc] 25)).alloc (.cells #[.bool false, .slice none 0 0] 25)).alloc (.cells #[.bool false, .slice none 0 0] 25) := ⟨_, rfl⟩
 have q0 : ICell W1 (w.heap.size) na (.slice ao al ac) := by rw [hW1]; exact (icell_step (icell_step (icell_step (icell_new _ (by simp)))))
 have q1 : ICell W1 (w.heap.size + 1) nb (.slice bo bl bc) := by rw [hW1]; exact (icell_step (icell_step (icell_new _ (by simp))))
 have q2 : ICell W1 (w.heap.size + 1 + 1) false (.slice none 0 0) := by rw [hW1]; exact (icell_step (icell_new _ (by simp)))
 have q3 : ICell W1 (w.heap.size + 1 + 1 + 1) false (.slice none 0 0) := by rw [hW1]; exact (icell_new _ (by simp))
 have hb : Below w.heap.size w W1 := by rw [hW1]; exact bstep (bstep (bstep (belowA w _) (belowA _ _)) (belowA _ _)) (belowA _ _)
 have hsz : w.heap.size + 1 + 1 + 1 < W1.heap.size := by rw [hW1]; simp
 replace ha := ha.below hb
 replace hb' := hb'.below hb
 replace hia := hia.below hb
 replace hib := hib.below hb
 have HW1 : Hid (W1 = (((w.alloc (.cells #[.bool na, .slice ao al ac] 25)).alloc (.cells #[.bool nb, .slice bo bl bc] 25)).alloc (.cells #[.bool false, .slice none 0 0] 25)).alloc (.cells #[.bool false, .slice none 0 0] 25)) := hW1
 clear hW1
 obtain ⟨FQ, hFQ⟩ : ∃ Q, Q = fq x y := ⟨_, rfl⟩
 obtain ⟨FR, hFR⟩ : ∃ R, R = fr x y := ⟨_, rfl⟩
 have HFQ : Hid (FQ = fq x y) := hFQ
 have HFR : Hid (FR = fr x y) := hFR
 rw [← hFQ, ← hFR]
 clear hFQ hFR
 obtain ⟨E, hE⟩ : ∃ E, E = errZ y.natAbs := ⟨_, rfl⟩
 have HEE : Hid (E = errZ y.natAbs) := hE
 rw [← hE]
 clear hE
 go_enter Tryz.func59, Tryz.ntmps59
 go_wp2_with fail
 rw [← HW1.out]
 clear HW1
 obtain ⟨g, hg⟩ : ∃ g, g = w.heap.size := ⟨_, rfl⟩
 rw [← hg] at q0 q1 q2 q3 hsz ⊢
 have HG : Hid (g = w.heap.size) := hg
 clear hg
 refine (rquo hia hib hL).mono ?_
 rintro e w2 ⟨mq, mr, rfl, hq, hr, hqr, hb2⟩
 obtain ⟨qo, ql, qc, rfl⟩ := hq.sl
 obtain ⟨ro, rl, rc, rfl⟩ := hr.sl
 rw [← HEE.out]
 obtain ⟨Q, hQ⟩ : ∃ Q, Q = x.tdiv y := ⟨_, rfl⟩
 obtain ⟨R, hR⟩ : ∃ R, R = rz x y := ⟨_, rfl⟩
 have HQ : Hid (Q = x.tdiv y) := hQ
 have HR : Hid (R = rz x y) := hR
 have sQ : Sz Q 1000000 := by rw [hQ]; exact ha.sz.le (tdiv_le x y)
 have sR : Sz R 1000000 := by rw [hR]; exact ha.sz.le (rz_le x y)
 rw [← hQ, ← hR]
 rw [← hQ] at hq
 rw [← hR] at hr
 clear hQ hR
 have iQ := INum.mk' hq sQ
 have iR := INum.mk' hr sR
 obtain ⟨bq, hbq⟩ : ∃ b, b = decide (Q < 0) := ⟨_, rfl⟩
 obtain ⟨br, hbr⟩ : ∃ b, b = decide (R < 0) := ⟨_, rfl⟩
 have HBQ : Hid (bq = decide (Q < 0)) := hbq
 have HBR : Hid (br = decide (R < 0)) := hbr
 rw [← hbq] at iQ
 rw [← hbr] at iR
 rw [← hbq, ← hbr]
 clear hbq hbr
 replace q1 := q1.below hb2
 replace q2 := q2.below hb2
 replace q3 := q3.below hb2
 replace hb := bstep hb hb2
 replace hb' := hb'.below hb2
 have HSZ : Hid (g + 1 + 1 + 1 < W1.heap.size) := hsz
 have hsz2 := Nat.lt_of_lt_of_le hsz hb2.size
 have HL2 : Hid (W1.heap.size ≤ w2.heap.size) := hb2.size
 have HNR : Hid ((Value.slice ro rl rc).ownBlock = none ∨ (Value.slice ro rl rc).ownBlock ≠ some w2.heap.size) := own_ne_top hr
 clear hsz hb2 ha q0 hia hib
 obtain ⟨W3, hW3⟩ : ∃ W3, W3 = (w2.alloc (.cells #[.bool bq, .slice qo ql qc] 25)).alloc (.cells #[.bool br, .slice ro rl rc] 25) := ⟨_, rfl⟩
 have p0 : ICell W3 (w2.heap.size) bq (.slice qo ql qc) := by rw [hW3]; exact icell_step (icell_new _ rfl)
 have p1 : ICell W3 (w2.heap.size + 1) br (.slice ro rl rc) := by rw [hW3]; exact icell_new _ (by simp)
 have hb3 : Below w2.heap.size w2 W3 := by rw [hW3]; exact bstep (belowA w2 _) (belowA _ _)
 have hsz3 : w2.heap.size + 1 < W3.heap.size := by rw [hW3]; simp
 replace q1 := q1.below hb3
 replace q2 := q2.below hb3
 replace q3 := q3.below hb3
 replace hb := bstep hb hb3
 replace hb' := hb'.below hb3
 replace iQ := iQ.below hb3
 replace iR := iR.below hb3
 replace hq := hq.below hb3
 replace hr := hr.below hb3
 have HLW0 : Hid (W1.heap.size ≤ W3.heap.size) := Nat.le_trans HL2.out hb3.size
 have HW3 : Hid (W3 = (w2.alloc (.cells #[.bool bq, .slice qo ql qc] 25)).alloc (.cells #[.bool br, .slice ro rl rc] 25)) := hW3
 clear hW3 hb3
 obtain ⟨v, hv⟩ : ∃ v, v = w2.heap.size := ⟨_, rfl⟩
 rw [← hv] at p0 p1 hsz2 hsz3
 have HV : Hid (v = w2.heap.size) := hv
 by_cases hy : y = 0
 ·
  have HZ0 : Hid (E = 11 ∧ Q = FQ ∧ R = FR) := by
   have h0 : rz x y = 0 := by unfold rz; rw [if_pos hy]
   have h1 : ¬ fup x y := by unfold fup; rw [h0]; simp [cmpZ]
   exact ⟨by rw [HEE.out, hy]; rfl, by rw [HQ.out, HFQ.out]; unfold fq; rw [if_neg h1], by rw [HR.out, HFR.out]; unfold fr; rw [if_neg h1]⟩
  obtain ⟨hE0, hQ0, hR0⟩ := HZ0.out
  subst hE0
  subst hQ0
  subst hR0
  clear HZ0 hy
  go_wp2_with fail
  rw [← HW3.out, ← hv]
  clear hv
  have p0' := p0
  have p1' := p1
  have q2' := q2
  have q3' := q3
  have hq' := hq
  have hr' := hr
  have hbn := hb
  clear p0 p1 q2 q3 hq hr hb
  obtain ⟨e0, e1⟩ := p0'.cells
  obtain ⟨e2, e3⟩ := p1'.cells
  obtain ⟨y20, y21⟩ := q2'.cells
  obtain ⟨y30, y31⟩ := q3'.cells
  have f20 := q2'.thaw 0
  have f21 := q2'.thaw 1
  have f30 := q3'.thaw 0
  have f31 := q3'.thaw 1
  have hne1 : ¬ v = g + 1 + 1 := by omega
  have hne2 : ¬ v = g + 1 + 1 + 1 := by omega
  have hne3 : ¬ v + 1 = g + 1 + 1 := by omega
  have hne4 : ¬ v + 1 = g + 1 + 1 + 1 := by omega
  have HW := icell_two (k1 := bq) (k2 := br) (v1 := .slice qo ql qc) (v2 := .slice ro rl rc) (show ICell W3.drew (g + 1 + 1) false (.slice none 0 0) from q2') (show ICell W3.drew (g + 1 + 1 + 1) false (.slice none 0 0) from q3') (by omega)
  have HW2 : Hid _ := HW
  clear HW
  have HE0 := quo_done (w := w) (wr := W3.drew) (B := W1.heap.size) (q := Q) (r := R) (er := 11) (g := g + 1 + 1) (g2 := g + 1 + 1 + 1) (v0 := .bool bq) (v1 := .slice qo ql qc) (u0 := .bool br) (u1 := .slice ro rl rc) (hq'.same rfl) (hr'.same rfl) hqr (by rw [HG.out]; omega) (by rw [HG.out]; omega) (by have := HSZ.out; omega) HSZ.out (bstep hbn (below_drew' _))
  rw [← HBQ.out, ← HBR.out] at HE0
  have HE : Hid (QEnd w Q R 11 _ _) := HE0
  clear HE0
  refine region_late [(0, fun w' => w'.cell? ⟨v, 0, none⟩ = some (.bool bq) ∧ w'.cell? ⟨v, 1, none⟩ = some (.slice qo ql qc)), (1, fun w' => w'.cell? ⟨v + 1, 0, none⟩ = some (.bool br) ∧ w'.cell? ⟨v + 1, 1, none⟩ = some (.slice ro rl rc)), (2, fun _ => True)] (by kernel_rfl) ?_
  have hHeld : AllL W3.drew [(0, fun w' => w'.cell? ⟨v, 0, none⟩ = some (.bool bq) ∧ w'.cell? ⟨v, 1, none⟩ = some (.slice qo ql qc)), (1, fun w' => w'.cell? ⟨v + 1, 0, none⟩ = some (.bool br) ∧ w'.cell? ⟨v + 1, 1, none⟩ = some (.slice ro rl rc)), (2, fun _ => True)] := ⟨(show ICell W3.drew v bq (.slice qo ql qc) from p0').cells, (show ICell W3.drew (v + 1) br (.slice ro rl rc) from p1').cells, trivial, trivial⟩
  refine late_tk 0 (v := .agg #[.bool bq, .slice qo ql qc]) rfl (List.Mem.head _) (Or.inl ⟨by rfl, ?_⟩) hHeld ?_
  · (intro u hu; (try dsimp only at hu); go_split_ands; go_simp)
  try simp only [pu1, pu2, pu3, pu4]
  refine late_tk 1 (v := .agg #[.bool br, .slice ro rl rc]) rfl (List.Mem.tail _ (List.Mem.head _)) (Or.inl ⟨by rfl, ?_⟩) hHeld ?_
  · (intro u hu; (try dsimp only at hu); go_split_ands; go_simp)
  try simp only [pu1, pu2, pu3, pu4]
  refine late_tk 2 (v := .int .i64 11) rfl (List.Mem.tail _ (List.Mem.tail _ (List.Mem.head _))) (Or.inl ⟨by rfl, ?_⟩) hHeld ?_
  · (intro u hu; (try dsimp only at hu); go_split_ands; go_simp)
  try simp only [pu1, pu2, pu3, pu4]
  refine late_st 3 rfl (fun K hK => ?_)
  go_simp
  refine hK.out _ _ ⟨kpt 3, Or.inr ⟨keepS hne3 hHeld.2.1.1, keepS hne3 hHeld.2.1.2⟩, Or.inr trivial, trivial⟩ ?_
  clear hK K
  try simp only [pu1, pu2, pu3, pu4]
  refine late_st 4 rfl (fun K hK => ?_)
  go_simp
  refine hK.out _ _ ⟨kpt 3, kpt 4, Or.inr trivial, trivial⟩ ?_
  clear hK K
  try simp only [pu1, pu2, pu3, pu4]
  refine late_st 5 rfl (fun K hK => ?_)
  go_simp
  refine hK.out _ _ ⟨kpt 3, kpt 4, kpt 5, trivial⟩ ?_
  clear hK K
  try simp only [pu1, pu2, pu3, pu4]
  refine late_done (by kernel_rfl) ?_ _
  clear e0 e1 e2 e3 y20 y21 y30 y31 f20 f21 f30 f31 hHeld
  go_wp2_with fail
  (try simp only [Exit.inBlock, Exit.then])
  exact bodyPost_ret (results_cct (p := 4) (q := 5) (u := 6) rfl _ _ (g + 1 + 1) (g + 1 + 1 + 1) 25 25 _ _ (0, 0) (0, 0) _ rfl rfl HW2.out.1 HW2.out.2 Tryz.underlying25 rfl (by kernel_rfl) (by kernel_rfl)) rfl HE.out
 ·
  have HZ0 : Hid (E = 0) := by show _ = _; rw [HEE.out]; unfold errZ; rw [if_neg (by omega)]
  have hE0 := HZ0.out
  subst hE0
  clear HZ0
  obtain ⟨s1, hs1⟩ : ∃ s, s = cmpZ R 0 := ⟨_, rfl⟩
  obtain ⟨s2, hs2⟩ : ∃ s, s = cmpZ y 0 := ⟨_, rfl⟩
  have HS1 : Hid (cmpZ R 0 = s1) := hs1.symm
  have HS2 : Hid (cmpZ y 0 = s2) := hs2.symm
  have HP : Hid (fup x y ↔ s1 ≠ 0 ∧ s1 ≠ s2) := by show _ ↔ _; unfold fup; rw [← HR.out, hs1, hs2]; exact up_iff R hy
  clear hs1 hs2 hy
  go_wp2_with fail
  rw [← HW3.out, ← hv]
  clear hv
  by_cases h0 : s1 = 0
  ·
   have HFQ2 : Hid (Q = FQ) := by show _ = _; rw [HQ.out, HFQ.out]; unfold fq; rw [if_neg (fun h => (HP.out.1 h).1 h0)]
   have HFR2 : Hid (R = FR) := by show _ = _; rw [HR.out, HFR.out]; unfold fr; rw [if_neg (fun h => (HP.out.1 h).1 h0)]
   obtain hQ0 := HFQ2.out
   obtain hR0 := HFR2.out
   subst hQ0
   subst hR0
   have hs0 : (s1 == 0) = true := by rw [h0]; rfl
   have hs9 : (s1 != 0) = false := by rw [h0]; rfl
   clear h0
   refine region_late [(0, fun w' => w'.cell? ⟨v + 1, 0, none⟩ = some (.bool br) ∧ w'.cell? ⟨v + 1, 1, none⟩ = some (.slice ro rl rc)), (4, fun w' => w'.cell? ⟨v + 1, 0, none⟩ = some (.bool br) ∧ w'.cell? ⟨v + 1, 1, none⟩ = some (.slice ro rl rc)), (6, fun w' => w'.cell? ⟨g + 1, 0, none⟩ = some (.bool nb) ∧ w'.cell? ⟨g + 1, 1, none⟩ = some (.slice bo bl bc))] (by kernel_rfl) ?_
   have hHeld : AllL W3.drew [(0, fun w' => w'.cell? ⟨v + 1, 0, none⟩ = some (.bool br) ∧ w'.cell? ⟨v + 1, 1, none⟩ = some (.slice ro rl rc)), (4, fun w' => w'.cell? ⟨v + 1, 0, none⟩ = some (.bool br) ∧ w'.cell? ⟨v + 1, 1, none⟩ = some (.slice ro rl rc)), (6, fun w' => w'.cell? ⟨g + 1, 0, none⟩ = some (.bool nb) ∧ w'.cell? ⟨g + 1, 1, none⟩ = some (.slice bo bl bc))] := ⟨(show ICell W3.drew (v + 1) br (.slice ro rl rc) from p1).cells, (show ICell W3.drew (v + 1) br (.slice ro rl rc) from p1).cells, (show ICell W3.drew (g + 1) nb (.slice bo bl bc) from q1).cells, trivial⟩
   refine late_tk 0 (v := .agg #[.bool br, .slice ro rl rc]) rfl (List.Mem.head _) (Or.inl ⟨by rfl, ?_⟩) hHeld ?_
   · (intro u hu; (try dsimp only at hu); go_split_ands; go_simp)
   try simp only [pu1, pu2, pu3, pu4]
   refine late_st 1 rfl (fun K hK => ?_)
   go_simp
   refine (r_sign (iR.below (below_drew' _))).mono ?_
   rw [HS1.out]
   rintro e w4 ⟨rfl, b4⟩
   have B4 : Below W3.heap.size W3 w4 := bstep (below_drew' _) b4
   replace hHeld := AllL.mv (w' := w4) hHeld ⟨(p1.below B4).cells, (p1.below B4).cells, (q1.below B4).cells, trivial⟩
   go_wp2_with fail
   refine hK.out _ _ (AllL.kept hHeld) ?_
   clear hK K
   try simp only [pu1, pu2, pu3, pu4]
   refine late_fr 2 (v := .bool false) rfl (Or.inl ⟨by rfl, ?_⟩) hHeld ?_
   · (intro u _; go_simp)
   try simp only [pu1, pu2, pu3, pu4]
   refine late_fr 3 (v := .bool false) rfl (Or.inl ⟨by rfl, ?_⟩) hHeld ?_
   · (intro u _; go_simp)
   try simp only [pu1, pu2, pu3, pu4]
   refine late_fr 4 (v := undef) rfl (Or.inr ⟨by rfl, rfl⟩) hHeld ?_
   try simp only [pu1, pu2, pu3, pu4]
   refine late_fr 6 (v := undef) rfl (Or.inr ⟨by rfl, rfl⟩) hHeld ?_
   try simp only [pu1, pu2, pu3, pu4]
   refine late_st 5 rfl (fun K hK => ?_)
   go_simp
   refine hK.out _ _ (AllL.kept hHeld) ?_
   clear hK K
   try simp only [pu1, pu2, pu3, pu4]
   refine late_st 7 rfl (fun K hK => ?_)
   go_simp
   refine hK.out _ _ (AllL.kept hHeld) ?_
   clear hK K
   try simp only [pu1, pu2, pu3, pu4]
   refine late_fr 8 (v := undef) rfl (Or.inr ⟨by rfl, rfl⟩) hHeld ?_
   try simp only [pu1, pu2, pu3, pu4]
   refine late_fr 9 (v := .bool false) rfl (Or.inl ⟨by rfl, ?_⟩) hHeld ?_
   · (intro u _; go_simp)
   try simp only [pu1, pu2, pu3, pu4]
   refine late_done (by kernel_rfl) ?_ _
   clear hHeld
   replace q1 := q1.below B4
   replace q2 := q2.below B4
   replace q3 := q3.below B4
   replace p0 := p0.below B4
   replace p1 := p1.below B4
   replace hq := hq.below B4
   replace hr := hr.below B4
   replace iQ := iQ.below B4
   replace iR := iR.below B4
   replace hb' := hb'.below B4
   replace hb := bstep hb B4
   have HLW : Hid (W1.heap.size ≤ w4.heap.size) := Nat.le_trans HLW0.out B4.size
   replace hsz3 := Nat.lt_of_lt_of_le hsz3 B4.size
   clear b4 B4
   clear hs0 hs9
   go_wp2_with fail
   obtain ⟨e0, e1⟩ := p0.cells
   obtain ⟨e2, e3⟩ := p1.cells
   obtain ⟨y20, y21⟩ := q2.cells
   obtain ⟨y30, y31⟩ := q3.cells
   have f20 := q2.thaw 0
   have f21 := q2.thaw 1
   have f30 := q3.thaw 0
   have f31 := q3.thaw 1
   have hne1 : ¬ v = g + 1 + 1 := by omega
   have hne2 : ¬ v = g + 1 + 1 + 1 := by omega
   have hne3 : ¬ v + 1 = g + 1 + 1 := by omega
   have hne4 : ¬ v + 1 = g + 1 + 1 + 1 := by omega
   have HW := icell_two (k1 := bq) (k2 := br) (v1 := .slice qo ql qc) (v2 := .slice ro rl rc) (show ICell w4.drew (g + 1 + 1) false (.slice none 0 0) from q2) (show ICell w4.drew (g + 1 + 1 + 1) false (.slice none 0 0) from q3) (by omega)
   have HW2 : Hid _ := HW
   clear HW
   have HE0 := quo_done (w := w) (wr := w4.drew) (B := W1.heap.size) (q := Q) (r := R) (er := 0) (g := g + 1 + 1) (g2 := g + 1 + 1 + 1) (v0 := .bool bq) (v1 := .slice qo ql qc) (u0 := .bool br) (u1 := .slice ro rl rc) (hq.same rfl) (hr.same rfl) hqr (by rw [HG.out]; omega) (by rw [HG.out]; omega) (by have := HSZ.out; omega) HSZ.out (bstep hb (below_drew' _))
   rw [← HBQ.out, ← HBR.out] at HE0
   have HE : Hid (QEnd w Q R 0 _ _) := HE0
   clear HE0
   refine region_late [(0, fun w' => w'.cell? ⟨v, 0, none⟩ = some (.bool bq) ∧ w'.cell? ⟨v, 1, none⟩ = some (.slice qo ql qc)), (1, fun w' => w'.cell? ⟨v + 1, 0, none⟩ = some (.bool br) ∧ w'.cell? ⟨v + 1, 1, none⟩ = some (.slice ro rl rc))] (by kernel_rfl) ?_
   have hHeld : AllL w4.drew [(0, fun w' => w'.cell? ⟨v, 0, none⟩ = some (.bool bq) ∧ w'.cell? ⟨v, 1, none⟩ = some (.slice qo ql qc)), (1, fun w' => w'.cell? ⟨v + 1, 0, none⟩ = some (.bool br) ∧ w'.cell? ⟨v + 1, 1, none⟩ = some (.slice ro rl rc))] := ⟨(show ICell w4.drew v bq (.slice qo ql qc) from p0).cells, (show ICell w4.drew (v + 1) br (.slice ro rl rc) from p1).cells, trivial⟩
   refine late_tk 0 (v := .agg #[.bool bq, .slice qo ql qc]) rfl (List.Mem.head _) (Or.inl ⟨by rfl, ?_⟩) hHeld ?_
   · (intro u hu; (try dsimp only at hu); go_split_ands; go_simp)
   try simp only [pu1, pu2, pu3, pu4]
   refine late_tk 1 (v := .agg #[.bool br, .slice ro rl rc]) rfl (List.Mem.tail _ (List.Mem.head _)) (Or.inl ⟨by rfl, ?_⟩) hHeld ?_
   · (intro u hu; (try dsimp only at hu); go_split_ands; go_simp)
   try simp only [pu1, pu2, pu3, pu4]
   refine late_st 2 rfl (fun K hK => ?_)
   go_simp
   refine hK.out _ _ ⟨kpt 2, Or.inr ⟨keepS hne3 hHeld.2.1.1, keepS hne3 hHeld.2.1.2⟩, trivial⟩ ?_
   clear hK K
   try simp only [pu1, pu2, pu3, pu4]
   refine late_st 3 rfl (fun K hK => ?_)
   go_simp
   refine hK.out _ _ ⟨kpt 2, kpt 3, trivial⟩ ?_
   clear hK K
   try simp only [pu1, pu2, pu3, pu4]
   refine late_st 4 rfl (fun K hK => ?_)
   go_simp
   refine hK.out _ _ ⟨kpt 2, kpt 3, trivial⟩ ?_
   clear hK K
   try simp only [pu1, pu2, pu3, pu4]
   refine late_done (by kernel_rfl) ?_ _
   clear e0 e1 e2 e3 y20 y21 y30 y31 f20 f21 f30 f31 hHeld
   go_wp2_with fail
   (try simp only [Exit.inBlock, Exit.then])
   exact bodyPost_ret (results_cct (p := 4) (q := 5) (u := 6) rfl _ _ (g + 1 + 1) (g + 1 + 1 + 1) 25 25 _ _ (0, 0) (0, 0) _ rfl rfl HW2.out.1 HW2.out.2 Tryz.underlying25 rfl (by kernel_rfl) (by kernel_rfl)) rfl HE.out
  ·
   by_cases h1 : s1 = s2
   ·
    have HFQ2 : Hid (Q = FQ) := by show _ = _; rw [HQ.out, HFQ.out]; unfold fq; rw [if_neg (fun h => (HP.out.1 h).2 h1)]
    have HFR2 : Hid (R = FR) := by show _ = _; rw [HR.out, HFR.out]; unfold fr; rw [if_neg (fun h => (HP.out.1 h).2 h1)]
    obtain hQ0 := HFQ2.out
    obtain hR0 := HFR2.out
    subst hQ0
    subst hR0
    have hs0 : (s1 == 0) = false := by simpa using h0
    have hs9 : (s1 != 0) = true := by simpa using h0
    have hs1 : (s1 == s2) = true := by rw [h1]; simp
    have hs2 : (s1 != s2) = false := by rw [h1]; simp
    clear h0 h1
    refine region_late [(0, fun w' => w'.cell? ⟨v + 1, 0, none⟩ = some (.bool br) ∧ w'.cell? ⟨v + 1, 1, none⟩ = some (.slice ro rl rc)), (4, fun w' => w'.cell? ⟨v + 1, 0, none⟩ = some (.bool br) ∧ w'.cell? ⟨v + 1, 1, none⟩ = some (.slice ro rl rc)), (6, fun w' => w'.cell? ⟨g + 1, 0, none⟩ = some (.bool nb) ∧ w'.cell? ⟨g + 1, 1, none⟩ = some (.slice bo bl bc))] (by kernel_rfl) ?_
    have hHeld : AllL W3.drew [(0, fun w' => w'.cell? ⟨v + 1, 0, none⟩ = some (.bool br) ∧ w'.cell? ⟨v + 1, 1, none⟩ = some (.slice ro rl rc)), (4, fun w' => w'.cell? ⟨v + 1, 0, none⟩ = some (.bool br) ∧ w'.cell? ⟨v + 1, 1, none⟩ = some (.slice ro rl rc)), (6, fun w' => w'.cell? ⟨g + 1, 0, none⟩ = some (.bool nb) ∧ w'.cell? ⟨g + 1, 1, none⟩ = some (.slice bo bl bc))] := ⟨(show ICell W3.drew (v + 1) br (.slice ro rl rc) from p1).cells, (show ICell W3.drew (v + 1) br (.slice ro rl rc) from p1).cells, (show ICell W3.drew (g + 1) nb (.slice bo bl bc) from q1).cells, trivial⟩
    refine late_tk 0 (v := .agg #[.bool br, .slice ro rl rc]) rfl (List.Mem.head _) (Or.inl ⟨by rfl, ?_⟩) hHeld ?_
    · (intro u hu; (try dsimp only at hu); go_split_ands; go_simp)
    try simp only [pu1, pu2, pu3, pu4]
    refine late_st 1 rfl (fun K hK => ?_)
    go_simp
    refine (r_sign (iR.below (below_drew' _))).mono ?_
    rw [HS1.out]
    rintro e w4 ⟨rfl, b4⟩
    have B4 : Below W3.heap.size W3 w4 := bstep (below_drew' _) b4
    replace hHeld := AllL.mv (w' := w4) hHeld ⟨(p1.below B4).cells, (p1.below B4).cells, (q1.below B4).cells, trivial⟩
    go_wp2_with fail
    refine hK.out _ _ (AllL.kept hHeld) ?_
    clear hK K
    try simp only [pu1, pu2, pu3, pu4]
    refine late_fr 2 (v := .bool true) rfl (Or.inl ⟨by rfl, ?_⟩) hHeld ?_
    · (intro u _; go_simp)
    try simp only [pu1, pu2, pu3, pu4]
    refine late_fr 3 (v := .bool true) rfl (Or.inl ⟨by rfl, ?_⟩) hHeld ?_
    · (intro u _; go_simp)
    try simp only [pu1, pu2, pu3, pu4]
    refine late_tk 4 (v := .agg #[.bool br, .slice ro rl rc]) rfl (List.Mem.tail _ (List.Mem.head _)) (Or.inl ⟨by rfl, ?_⟩) hHeld ?_
    · (intro u hu; (try dsimp only at hu); go_split_ands; go_simp)
    try simp only [pu1, pu2, pu3, pu4]
    refine late_tk 6 (v := .agg #[.bool nb, .slice bo bl bc]) rfl (List.Mem.tail _ (List.Mem.tail _ (List.Mem.head _))) (Or.inl ⟨by rfl, ?_⟩) hHeld ?_
    · (intro u hu; (try dsimp only at hu); go_split_ands; go_simp)
    try simp only [pu1, pu2, pu3, pu4]
    refine late_st 5 rfl (fun K hK => ?_)
    go_simp
    refine (r_sign (iR.below B4)).mono ?_
    rw [HS1.out]
    rintro e w5 ⟨rfl, b5⟩
    have B5 : Below W3.heap.size W3 w5 := bstep B4 b5
    replace hHeld := AllL.mv (w' := w5) hHeld ⟨(p1.below B5).cells, (p1.below B5).cells, (q1.below B5).cells, trivial⟩
    go_wp2_with fail
    refine hK.out _ _ (AllL.kept hHeld) ?_
    clear hK K
    try simp only [pu1, pu2, pu3, pu4]
    refine late_st 7 rfl (fun K hK => ?_)
    go_simp
    refine (r_sign (hb'.below B5)).mono ?_
    rw [HS2.out]
    rintro e w6 ⟨rfl, b6⟩
    have B6 : Below W3.heap.size W3 w6 := bstep B5 b6
    replace hHeld := AllL.mv (w' := w6) hHeld ⟨(p1.below B6).cells, (p1.below B6).cells, (q1.below B6).cells, trivial⟩
    go_wp2_with fail
    refine hK.out _ _ (AllL.kept hHeld) ?_
    clear hK K
    try simp only [pu1, pu2, pu3, pu4]
    refine late_fr 8 (v := .bool false) rfl (Or.inl ⟨by rfl, ?_⟩) hHeld ?_
    · (intro u _; go_simp)
    try simp only [pu1, pu2, pu3, pu4]
    refine late_fr 9 (v := .bool false) rfl (Or.inl ⟨by rfl, ?_⟩) hHeld ?_
    · (intro u _; go_simp)
    try simp only [pu1, pu2, pu3, pu4]
    refine late_done (by kernel_rfl) ?_ _
    clear hHeld
    replace q1 := q1.below B6
    replace q2 := q2.below B6
    replace q3 := q3.below B6
    replace p0 := p0.below B6
    replace p1 := p1.below B6
    replace hq := hq.below B6
    replace hr := hr.below B6
    replace iQ := iQ.below B6
    replace iR := iR.below B6
    replace hb' := hb'.below B6
    replace hb := bstep hb B6
    have HLW : Hid (W1.heap.size ≤ w6.heap.size) := Nat.le_trans HLW0.out B6.size
    replace hsz3 := Nat.lt_of_lt_of_le hsz3 B6.size
    clear b4 B4 b5 B5 b6 B6
    clear hs0 hs9 hs1 hs2
    go_wp2_with fail
    obtain ⟨e0, e1⟩ := p0.cells
    obtain ⟨e2, e3⟩ := p1.cells
    obtain ⟨y20, y21⟩ := q2.cells
    obtain ⟨y30, y31⟩ := q3.cells
    have f20 := q2.thaw 0
    have f21 := q2.thaw 1
    have f30 := q3.thaw 0
    have f31 := q3.thaw 1
    have hne1 : ¬ v = g + 1 + 1 := by omega
    have hne2 : ¬ v = g + 1 + 1 + 1 := by omega
    have hne3 : ¬ v + 1 = g + 1 + 1 := by omega
    have hne4 : ¬ v + 1 = g + 1 + 1 + 1 := by omega
    have HW := icell_two (k1 := bq) (k2 := br) (v1 := .slice qo ql qc) (v2 := .slice ro rl rc) (show ICell w6.drew (g + 1 + 1) false (.slice none 0 0) from q2) (show ICell w6.drew (g + 1 + 1 + 1) false (.slice none 0 0) from q3) (by omega)
    have HW2 : Hid _ := HW
    clear HW
    have HE0 := quo_done (w := w) (wr := w6.drew) (B := W1.heap.size) (q := Q) (r := R) (er := 0) (g := g + 1 + 1) (g2 := g + 1 + 1 + 1) (v0 := .bool bq) (v1 := .slice qo ql qc) (u0 := .bool br) (u1 := .slice ro rl rc) (hq.same rfl) (hr.same rfl) hqr (by rw [HG.out]; omega) (by rw [HG.out]; omega) (by have := HSZ.out; omega) HSZ.out (bstep hb (below_drew' _))
    rw [← HBQ.out, ← HBR.out] at HE0
    have HE : Hid (QEnd w Q R 0 _ _) := HE0
    clear HE0
    refine region_late [(0, fun w' => w'.cell? ⟨v, 0, none⟩ = some (.bool bq) ∧ w'.cell? ⟨v, 1, none⟩ = some (.slice qo ql qc)), (1, fun w' => w'.cell? ⟨v + 1, 0, none⟩ = some (.bool br) ∧ w'.cell? ⟨v + 1, 1, none⟩ = some (.slice ro rl rc))] (by kernel_rfl) ?_
    have hHeld : AllL w6.drew [(0, fun w' => w'.cell? ⟨v, 0, none⟩ = some (.bool bq) ∧ w'.cell? ⟨v, 1, none⟩ = some (.slice qo ql qc)), (1, fun w' => w'.cell? ⟨v + 1, 0, none⟩ = some (.bool br) ∧ w'.cell? ⟨v + 1, 1, none⟩ = some (.slice ro rl rc))] := ⟨(show ICell w6.drew v bq (.slice qo ql qc) from p0).cells, (show ICell w6.drew (v + 1) br (.slice ro rl rc) from p1).cells, trivial⟩
    refine late_tk 0 (v := .agg #[.bool bq, .slice qo ql qc]) rfl (List.Mem.head _) (Or.inl ⟨by rfl, ?_⟩) hHeld ?_
    · (intro u hu; (try dsimp only at hu); go_split_ands; go_simp)
    try simp only [pu1, pu2, pu3, pu4]
    refine late_tk 1 (v := .agg #[.bool br, .slice ro rl rc]) rfl (List.Mem.tail _ (List.Mem.head _)) (Or.inl ⟨by rfl, ?_⟩) hHeld ?_
    · (intro u hu; (try dsimp only at hu); go_split_ands; go_simp)
    try simp only [pu1, pu2, pu3, pu4]
    refine late_st 2 rfl (fun K hK => ?_)
    go_simp
    refine hK.out _ _ ⟨kpt 2, Or.inr ⟨keepS hne3 hHeld.2.1.1, keepS hne3 hHeld.2.1.2⟩, trivial⟩ ?_
    clear hK K
    try simp only [pu1, pu2, pu3, pu4]
    refine late_st 3 rfl (fun K hK => ?_)
    go_simp
    refine hK.out _ _ ⟨kpt 2, kpt 3, trivial⟩ ?_
    clear hK K
    try simp only [pu1, pu2, pu3, pu4]
    refine late_st 4 rfl (fun K hK => ?_)
    go_simp
    refine hK.out _ _ ⟨kpt 2, kpt 3, trivial⟩ ?_
    clear hK K
    try simp only [pu1, pu2, pu3, pu4]
    refine late_done (by kernel_rfl) ?_ _
    clear e0 e1 e2 e3 y20 y21 y30 y31 f20 f21 f30 f31 hHeld
    go_wp2_with fail
    (try simp only [Exit.inBlock, Exit.then])
    exact bodyPost_ret (results_cct (p := 4) (q := 5) (u := 6) rfl _ _ (g + 1 + 1) (g + 1 + 1 + 1) 25 25 _ _ (0, 0) (0, 0) _ rfl rfl HW2.out.1 HW2.out.2 Tryz.underlying25 rfl (by kernel_rfl) (by kernel_rfl)) rfl HE.out
   ·
    have HFQ2 : Hid (Q - 1 = FQ) := by show _ = _; rw [HQ.out, HFQ.out]; unfold fq; rw [if_pos (HP.out.2 ⟨h0, h1⟩)]
    have HFR2 : Hid (R + y = FR) := by show _ = _; rw [HR.out, HFR.out]; unfold fr; rw [if_pos (HP.out.2 ⟨h0, h1⟩)]
    have hs0 : (s1 == 0) = false := by simpa using h0
    have hs9 : (s1 != 0) = true := by simpa using h0
    have hs1 : (s1 == s2) = false := by simpa using h1
    have hs2 : (s1 != s2) = true := by simpa using h1
    clear h0 h1
    refine region_late [(0, fun w' => w'.cell? ⟨v + 1, 0, none⟩ = some (.bool br) ∧ w'.cell? ⟨v + 1, 1, none⟩ = some (.slice ro rl rc)), (4, fun w' => w'.cell? ⟨v + 1, 0, none⟩ = some (.bool br) ∧ w'.cell? ⟨v + 1, 1, none⟩ = some (.slice ro rl rc)), (6, fun w' => w'.cell? ⟨g + 1, 0, none⟩ = some (.bool nb) ∧ w'.cell? ⟨g + 1, 1, none⟩ = some (.slice bo bl bc))] (by kernel_rfl) ?_
    have hHeld : AllL W3.drew [(0, fun w' => w'.cell? ⟨v + 1, 0, none⟩ = some (.bool br) ∧ w'.cell? ⟨v + 1, 1, none⟩ = some (.slice ro rl rc)), (4, fun w' => w'.cell? ⟨v + 1, 0, none⟩ = some (.bool br) ∧ w'.cell? ⟨v + 1, 1, none⟩ = some (.slice ro rl rc)), (6, fun w' => w'.cell? ⟨g + 1, 0, none⟩ = some (.bool nb) ∧ w'.cell? ⟨g + 1, 1, none⟩ = some (.slice bo bl bc))] := ⟨(show ICell W3.drew (v + 1) br (.slice ro rl rc) from p1).cells, (show ICell W3.drew (v + 1) br (.slice ro rl rc) from p1).cells, (show ICell W3.drew (g + 1) nb (.slice bo bl bc) from q1).cells, trivial⟩
    refine late_tk 0 (v := .agg #[.bool br, .slice ro rl rc]) rfl (List.Mem.head _) (Or.inl ⟨by rfl, ?_⟩) hHeld ?_
    · (intro u hu; (try dsimp only at hu); go_split_ands; go_simp)
    try simp only [pu1, pu2, pu3, pu4]
    refine late_st 1 rfl (fun K hK => ?_)
    go_simp
    refine (r_sign (iR.below (below_drew' _))).mono ?_
    rw [HS1.out]
    rintro e w4 ⟨rfl, b4⟩
    have B4 : Below W3.heap.size W3 w4 := bstep (below_drew' _) b4
    replace hHeld := AllL.mv (w' := w4) hHeld ⟨(p1.below B4).cells, (p1.below B4).cells, (q1.below B4).cells, trivial⟩
    go_wp2_with fail
    refine hK.out _ _ (AllL.kept hHeld) ?_
    clear hK K
    try simp only [pu1, pu2, pu3, pu4]
    refine late_fr 2 (v := .bool true) rfl (Or.inl ⟨by rfl, ?_⟩) hHeld ?_
    · (intro u _; go_simp)
    try simp only [pu1, pu2, pu3, pu4]
    refine late_fr 3 (v := .bool true) rfl (Or.inl ⟨by rfl, ?_⟩) hHeld ?_
    · (intro u _; go_simp)
    try simp only [pu1, pu2, pu3, pu4]
    refine late_tk 4 (v := .agg #[.bool br, .slice ro rl rc]) rfl (List.Mem.tail _ (List.Mem.head _)) (Or.inl ⟨by rfl, ?_⟩) hHeld ?_
    · (intro u hu; (try dsimp only at hu); go_split_ands; go_simp)
    try simp only [pu1, pu2, pu3, pu4]
    refine late_tk 6 (v := .agg #[.bool nb, .slice bo bl bc]) rfl (List.Mem.tail _ (List.Mem.tail _ (List.Mem.head _))) (Or.inl ⟨by rfl, ?_⟩) hHeld ?_
    · (intro u hu; (try dsimp only at hu); go_split_ands; go_simp)
    try simp only [pu1, pu2, pu3, pu4]
    refine late_st 5 rfl (fun K hK => ?_)
    go_simp
    refine (r_sign (iR.below B4)).mono ?_
    rw [HS1.out]
    rintro e w5 ⟨rfl, b5⟩
    have B5 : Below W3.heap.size W3 w5 := bstep B4 b5
    replace hHeld := AllL.mv (w' := w5) hHeld ⟨(p1.below B5).cells, (p1.below B5).cells, (q1.below B5).cells, trivial⟩
    go_wp2_with fail
    refine hK.out _ _ (AllL.kept hHeld) ?_
    clear hK K
    try simp only [pu1, pu2, pu3, pu4]
    refine late_st 7 rfl (fun K hK => ?_)
    go_simp
    refine (r_sign (hb'.below B5)).mono ?_
    rw [HS2.out]
    rintro e w6 ⟨rfl, b6⟩
    have B6 : Below W3.heap.size W3 w6 := bstep B5 b6
    replace hHeld := AllL.mv (w' := w6) hHeld ⟨(p1.below B6).cells, (p1.below B6).cells, (q1.below B6).cells, trivial⟩
    go_wp2_with fail
    refine hK.out _ _ (AllL.kept hHeld) ?_
    clear hK K
    try simp only [pu1, pu2, pu3, pu4]
    refine late_fr 8 (v := .bool true) rfl (Or.inl ⟨by rfl, ?_⟩) hHeld ?_
    · (intro u _; go_simp)
    try simp only [pu1, pu2, pu3, pu4]
    refine late_fr 9 (v := .bool true) rfl (Or.inl ⟨by rfl, ?_⟩) hHeld ?_
    · (intro u _; go_simp)
    try simp only [pu1, pu2, pu3, pu4]
    refine late_done (by kernel_rfl) ?_ _
    clear hHeld
    replace q1 := q1.below B6
    replace q2 := q2.below B6
    replace q3 := q3.below B6
    replace p0 := p0.below B6
    replace p1 := p1.below B6
    replace hq := hq.below B6
    replace hr := hr.below B6
    replace iQ := iQ.below B6
    replace iR := iR.below B6
    replace hb' := hb'.below B6
    replace hb := bstep hb B6
    have HLW : Hid (W1.heap.size ≤ w6.heap.size) := Nat.le_trans HLW0.out B6.size
    replace hsz3 := Nat.lt_of_lt_of_le hsz3 B6.size
    clear b4 B4 b5 B5 b6 B6
    clear hs0 hs9 hs1 hs2
    go_wp2_with fail
    refine region_late [(0, fun w' => w'.cell? ⟨v, 0, none⟩ = some (.bool bq) ∧ w'.cell? ⟨v, 1, none⟩ = some (.slice qo ql qc))] (by kernel_rfl) ?_
    have hHeld : AllL w6.drew [(0, fun w' => w'.cell? ⟨v, 0, none⟩ = some (.bool bq) ∧ w'.cell? ⟨v, 1, none⟩ = some (.slice qo ql qc))] := ⟨(show ICell w6.drew v bq (.slice qo ql qc) from p0).cells, trivial⟩
    refine late_tk 0 (v := .agg #[.bool bq, .slice qo ql qc]) rfl (List.Mem.head _) (Or.inl ⟨by rfl, ?_⟩) hHeld ?_
    · (intro u hu; (try dsimp only at hu); go_split_ands; go_simp)
    try simp only [pu1, pu2, pu3, pu4]
    refine late_st 1 rfl (fun K hK => ?_)
    go_simp
    refine (r_of 1 _ (by decide) (by decide)).mono ?_
    rintro e w7 ⟨o, rfl, ho, b7⟩
    have io := ho.num Sz.one (by decide)
    obtain ⟨on, oo, ol, oc, ox, rfl, ou, oll, oz⟩ := io
    have io : INum w7 (.agg #[.bool on, .slice oo ol oc]) 1 := ⟨_, _, _, _, _, rfl, ou, oll, oz⟩
    clear ho ou oll oz
    have B7 : Below w6.heap.size w6 w7 := bstep (below_drew' _) b7
    replace hHeld := AllL.mv (w' := w7) hHeld ⟨(p0.below B7).cells, trivial⟩
    go_wp2_with fail
    refine hK.out _ _ (AllL.kept hHeld) ?_
    clear hK K
    try simp only [pu1, pu2, pu3, pu4]
    refine late_st 2 rfl (fun K hK => ?_)
    go_simp
    refine (r_sub (iQ.below B7) io Sz.one (by decide)).mono ?_
    rw [HFQ2.out]
    rintro e w8 ⟨u, rfl, ⟨m, rfl, hms⟩, b8⟩
    obtain ⟨so, sl, sc, rfl⟩ := hms.sl
    have B8 : Below w6.heap.size w6 w8 := bstep B7 b8
    replace hHeld := AllL.mv (w' := w8) hHeld ⟨(p0.below B8).cells, trivial⟩
    go_wp2_with fail
    refine hK.out _ _ (AllL.kept hHeld) ?_
    clear hK K
    try simp only [pu1, pu2, pu3, pu4]
    replace q1 := q1.below B8
    replace q2 := q2.below B8
    replace q3 := q3.below B8
    replace p0 := p0.below B8
    replace p1 := p1.below B8
    replace hr := hr.below B8
    replace hb := bstep hb B8
    have hsz8 := Nat.lt_of_lt_of_le hsz3 B8.size
    have hle7 := B7.size
    have hle8 := B8.size
    obtain ⟨bq2, hbq2⟩ : ∃ b, b = decide (FQ < 0) := ⟨_, rfl⟩
    have HBQ2 : Hid (bq2 = decide (FQ < 0)) := hbq2
    rw [← hbq2]
    clear hbq2 B7 b7 B8 b8 io iQ hq
    obtain ⟨i0, i1⟩ := p0.cells
    have f0 := p0.thaw 0
    have f1 := p0.thaw 1
    refine late_st 3 rfl (fun K hK => ?_)
    go_simp
    refine hK.out _ _ ⟨kpt 2, trivial⟩ ?_
    clear hK K
    try simp only [pu1, pu2, pu3, pu4]
    refine late_done (by kernel_rfl) ?_ _
    have hsv : v + 1 < w7.heap.size := Nat.lt_of_lt_of_le hsz3 hle7
    have hq := own_put (v0 := .bool bq2) (v1 := .slice so sl sc) hms (own_ne3 hms (g := v) (by omega))
    replace hr := own_put (v0 := .bool bq2) (v1 := .slice so sl sc) hr (by have h9 := HNR.out; rw [← HV.out] at h9; exact h9)
    replace hb : Below w.heap.size w ((w8.setCell ⟨v, 0, none⟩ (.bool bq2)).setCell ⟨v, 1, none⟩ (.slice so sl sc)) := iend2 hb (by rw [HG.out] at hsz2; omega)
    replace p0 := p0.write bq2 (.slice so sl sc)
    replace p1 := icell_put (v0 := .bool bq2) (v1 := .slice so sl sc) p1 (g2 := v) (by omega)
    replace q1 := icell_put (v0 := .bool bq2) (v1 := .slice so sl sc) q1 (g2 := v) (by omega)
    replace q2 := icell_put (v0 := .bool bq2) (v1 := .slice so sl sc) q2 (g2 := v) (by omega)
    replace q3 := icell_put (v0 := .bool bq2) (v1 := .slice so sl sc) q3 (g2 := v) (by omega)
    obtain ⟨WA, hWA⟩ : ∃ WA, WA = ((w8.setCell ⟨v, 0, none⟩ (.bool bq2)).setCell ⟨v, 1, none⟩ (.slice so sl sc)) := ⟨_, rfl⟩
    have hszA : WA.heap.size = w8.heap.size := by rw [hWA]; simp
    rw [← hWA] at hq hr hb p0 p1 q1 q2 q3 ⊢
    clear hWA i0 i1 f0 f1 hHeld hms
    replace iR := INum.mk' hr sR
    rw [← HBR.out] at iR
    replace hb' := (hib0.num (by omega)).below hb
    obtain ⟨c1, d1⟩ := q1.cells
    obtain ⟨e2, e3⟩ := p1.cells
    go_wp2_with fail
    clear c1 d1 e2 e3
    refine (r_add iR hb').mono ?_
    rw [HFR2.out]
    rintro e w9 ⟨u, rfl, ⟨m, rfl, hmt⟩, b9⟩
    obtain ⟨xo, xl, xc, rfl⟩ := hmt.sl
    have HAPP := apart_later hq hmt (Nat.le_refl _)
    replace q2 := q2.below b9
    replace q3 := q3.below b9
    replace p0 := p0.below b9
    replace p1 := p1.below b9
    replace hq := hq.below b9
    replace hb := bstep hb b9
    obtain ⟨br2, hbr2⟩ : ∃ b, b = decide (FR < 0) := ⟨_, rfl⟩
    have HBR2 : Hid (br2 = decide (FR < 0)) := hbr2
    rw [← hbr2]
    clear hbr2
    obtain ⟨e2, e3⟩ := p1.cells
    have f2 := p1.thaw 0
    have f3 := p1.thaw 1
    clear iR hb' hib0 q1 hr
    go_wp2_with fail
    clear e2 e3 f2 f3
    have HAP : Hid ((Value.slice so sl sc).ownBlock = none ∨ (Value.slice so sl sc).ownBlock ≠ (Value.slice xo xl xc).ownBlock) := HAPP
    have hleW := HLW.out
    replace hq := (own_put (v0 := .bool br2) (v1 := .slice xo xl xc) hq (own_ne3 hq (g := v + 1) (by omega))).mono (B' := W1.heap.size) (by omega)
    have hr := (own_put (v0 := .bool br2) (v1 := .slice xo xl xc) hmt (own_ne3 hmt (g := v + 1) (by omega))).mono (B' := W1.heap.size) (by omega)
    replace hb : Below w.heap.size w ((w9.setCell ⟨v + 1, 0, none⟩ (.bool br2)).setCell ⟨v + 1, 1, none⟩ (.slice xo xl xc)) := iend2 hb (by rw [HG.out] at hsz2; omega)
    replace p1 := p1.write br2 (.slice xo xl xc)
    replace p0 := icell_put (v0 := .bool br2) (v1 := .slice xo xl xc) p0 (g2 := v + 1) (by omega)
    replace q2 := icell_put (v0 := .bool br2) (v1 := .slice xo xl xc) q2 (g2 := v + 1) (by omega)
    replace q3 := icell_put (v0 := .bool br2) (v1 := .slice xo xl xc) q3 (g2 := v + 1) (by omega)
    obtain ⟨WB, hWB⟩ : ∃ WB, WB = ((w9.setCell ⟨v + 1, 0, none⟩ (.bool br2)).setCell ⟨v + 1, 1, none⟩ (.slice xo xl xc)) := ⟨_, rfl⟩
    rw [← hWB] at hq hr hb p0 p1 q2 q3 ⊢
    clear hWB hmt b9
    obtain ⟨e0, e1⟩ := p0.cells
    obtain ⟨e2, e3⟩ := p1.cells
    obtain ⟨y20, y21⟩ := q2.cells
    obtain ⟨y30, y31⟩ := q3.cells
    have f20 := q2.thaw 0
    have f21 := q2.thaw 1
    have f30 := q3.thaw 0
    have f31 := q3.thaw 1
    have hne1 : ¬ v = g + 1 + 1 := by omega
    have hne2 : ¬ v = g + 1 + 1 + 1 := by omega
    have hne3 : ¬ v + 1 = g + 1 + 1 := by omega
    have hne4 : ¬ v + 1 = g + 1 + 1 + 1 := by omega
    have HW := icell_two (k1 := bq2) (k2 := br2) (v1 := .slice so sl sc) (v2 := .slice xo xl xc) (show ICell WB.drew (g + 1 + 1) false (.slice none 0 0) from q2) (show ICell WB.drew (g + 1 + 1 + 1) false (.slice none 0 0) from q3) (by omega)
    have HW2 : Hid _ := HW
    clear HW
    have HE0 := quo_done (w := w) (wr := WB.drew) (B := W1.heap.size) (q := FQ) (r := FR) (er := 0) (g := g + 1 + 1) (g2 := g + 1 + 1 + 1) (v0 := .bool bq2) (v1 := .slice so sl sc) (u0 := .bool br2) (u1 := .slice xo xl xc) (hq.same rfl) (hr.same rfl) HAP.out (by rw [HG.out]; omega) (by rw [HG.out]; omega) (by have := HSZ.out; omega) HSZ.out (bstep hb (below_drew' _))
    rw [← HBQ2.out, ← HBR2.out] at HE0
    have HE : Hid (QEnd w FQ FR 0 _ _) := HE0
    clear HE0
    refine region_late [(0, fun w' => w'.cell? ⟨v, 0, none⟩ = some (.bool bq2) ∧ w'.cell? ⟨v, 1, none⟩ = some (.slice so sl sc)), (1, fun w' => w'.cell? ⟨v + 1, 0, none⟩ = some (.bool br2) ∧ w'.cell? ⟨v + 1, 1, none⟩ = some (.slice xo xl xc))] (by kernel_rfl) ?_
    have hHeld : AllL WB.drew [(0, fun w' => w'.cell? ⟨v, 0, none⟩ = some (.bool bq2) ∧ w'.cell? ⟨v, 1, none⟩ = some (.slice so sl sc)), (1, fun w' => w'.cell? ⟨v + 1, 0, none⟩ = some (.bool br2) ∧ w'.cell? ⟨v + 1, 1, none⟩ = some (.slice xo xl xc))] := ⟨(show ICell WB.drew v bq2 (.slice so sl sc) from p0).cells, (show ICell WB.drew (v + 1) br2 (.slice xo xl xc) from p1).cells, trivial⟩
    refine late_tk 0 (v := .agg #[.bool bq2, .slice so sl sc]) rfl (List.Mem.head _) (Or.inl ⟨by rfl, ?_⟩) hHeld ?_
    · (intro u hu; (try dsimp only at hu); go_split_ands; go_simp)
    try simp only [pu1, pu2, pu3, pu4]
    refine late_tk 1 (v := .agg #[.bool br2, .slice xo xl xc]) rfl (List.Mem.tail _ (List.Mem.head _)) (Or.inl ⟨by rfl, ?_⟩) hHeld ?_
    · (intro u hu; (try dsimp only at hu); go_split_ands; go_simp)
    try simp only [pu1, pu2, pu3, pu4]
    refine late_st 2 rfl (fun K hK => ?_)
    go_simp
    refine hK.out _ _ ⟨kpt 2, Or.inr ⟨keepS hne3 hHeld.2.1.1, keepS hne3 hHeld.2.1.2⟩, trivial⟩ ?_
    clear hK K
    try simp only [pu1, pu2, pu3, pu4]
    refine late_st 3 rfl (fun K hK => ?_)
    go_simp
    refine hK.out _ _ ⟨kpt 2, kpt 3, trivial⟩ ?_
    clear hK K
    try simp only [pu1, pu2, pu3, pu4]
    refine late_st 4 rfl (fun K hK => ?_)
    go_simp
    refine hK.out _ _ ⟨kpt 2, kpt 3, trivial⟩ ?_
    clear hK K
    try simp only [pu1, pu2, pu3, pu4]
    refine late_done (by kernel_rfl) ?_ _
    clear e0 e1 e2 e3 y20 y21 y30 y31 f20 f21 f30 f31 hHeld
    go_wp2_with fail
    (try simp only [Exit.inBlock, Exit.then])
    exact bodyPost_ret (results_cct (p := 4) (q := 5) (u := 6) rfl _ _ (g + 1 + 1) (g + 1 + 1 + 1) 25 25 _ _ (0, 0) (0, 0) _ rfl rfl HW2.out.1 HW2.out.2 Tryz.underlying25 rfl (by kernel_rfl) (by kernel_rfl)) rfl HE.out
end Go.Proofs.YtfnafgjnimfmjaaGreatDoor
