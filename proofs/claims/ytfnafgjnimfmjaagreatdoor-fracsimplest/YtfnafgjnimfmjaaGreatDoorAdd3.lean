/-
  Proved here: what Add and Sub of the document's layer 3 answer.
-/
import Derived.Test.YtfnafgjnimfmjaaGreatDoorR3C
import Derived.Deep.DeepCutAuto
namespace Go.Proofs.YtfnafgjnimfmjaaGreatDoor
open Go.RowKit
attribute [local go_sem ↓] Go.wp_at_zero Go.wp_at_succ

set_option maxRecDepth 100000 in
set_option maxHeartbeats 6400000 in
theorem add3 {p r : Int} {q k L M : Nat} (na : Bool) (ao aO : Option Addr) (al ac aL aC : Nat) (nb : Bool) (bo bO : Option Addr) (bl bc bL bC : Nat) {w : World} (ia : IB w (.agg #[.bool na, .slice ao al ac]) p L) (da : NB w (.slice aO aL aC) (q : Int) L) (h1L : 1 ≤ L) (ib : IB w (.agg #[.bool nb, .slice bo bl bc]) r M) (db : NB w (.slice bO bL bC) (k : Int) M) (h1M : 1 ≤ M) (hL : L + M ≤ 1400) : Calls Tryz.prog 62 #[.agg #[.bool na, .slice ao al ac, .slice aO aL aC], .agg #[.bool nb, .slice bo bl bc, .slice bO bL bC]] w fun e w' => REnd w (rq p q + rq r k) e w' := by
  obtain ⟨Z, hZ⟩ : ∃ Z, Z = rq p q + rq r k := ⟨_, rfl⟩
  rw [← hZ]
  have HZ : Hid (Rat.divInt (p * und k + r * und q) (und q * und k) = Z) := by show _ = _; rw [hZ]; exact rq_add p r q k
  clear hZ
  obtain ⟨W1, hW1⟩ : ∃ W1, W1 = ((w.alloc (.cells #[.bool na, .slice ao al ac, .slice aO aL aC] 27)).alloc (.cells #[.bool nb, .slice bo bl bc, .slice bO bL bC] 27)).alloc (.cells #[.bool false, .slice none 0 0, .slice none 0 0] 27) := ⟨_, rfl⟩
  have qa : QCell W1 (w.heap.size) na (.slice ao al ac) (.slice aO aL aC) := by rw [hW1]; exact (qcell_step (qcell_step (qcell_new _ (by simp))))
  have qb : QCell W1 (w.heap.size + 1) nb (.slice bo bl bc) (.slice bO bL bC) := by rw [hW1]; exact (qcell_step (qcell_new _ (by simp)))
  have qR : QCell W1 (w.heap.size + 1 + 1) false (.slice none 0 0) (.slice none 0 0) := by rw [hW1]; exact (qcell_new _ (by simp))
  have hb : Below w.heap.size w W1 := by rw [hW1]; exact bstep (bstep (belowA w _) (belowA _ _)) (belowA _ _)
  have hsz : w.heap.size + 1 + 1 < W1.heap.size := by rw [hW1]; simp
  replace db := db.below hb
  replace da := da.below hb
  replace ia := ia.below hb
  replace ib := ib.below hb
  have HW1 : Hid (W1 = ((w.alloc (.cells #[.bool na, .slice ao al ac, .slice aO aL aC] 27)).alloc (.cells #[.bool nb, .slice bo bl bc, .slice bO bL bC] 27)).alloc (.cells #[.bool false, .slice none 0 0, .slice none 0 0] 27)) := hW1
  clear hW1
  go_enter Tryz.func62, Tryz.ntmps62
  go_wp2_with fail
  rw [← HW1.out]
  clear HW1
  obtain ⟨g, hg⟩ : ∃ g, g = w.heap.size := ⟨_, rfl⟩
  rw [← hg] at qa qb qR hsz ⊢
  have HG : Hid (g = w.heap.size) := hg
  clear hg
  go_cut [5] (fun t wx => ∃ vx nx xo xl xc, t = .pointer (some ⟨vx, 0, none⟩) ∧ ICell wx vx nx (.slice xo xl xc) ∧ IB wx (.agg #[.bool nx, .slice xo xl xc]) (p * und k) (L + M) ∧ Below W1.heap.size W1 wx ∧ W1.heap.size ≤ vx)
  case first =>
    refine region_late [(1, fun w' => w'.cell? ⟨g, 0, none⟩ = some (.bool na) ∧ w'.cell? ⟨g, 1, none⟩ = some (.slice ao al ac)), (2, fun w' => w'.cell? ⟨g + 1, 0, none⟩ = some (.bool nb) ∧ w'.cell? ⟨g + 1, 1, none⟩ = some (.slice bo bl bc) ∧ w'.cell? ⟨g + 1, 2, none⟩ = some (.slice bO bL bC))] (by kernel_rfl) ?_
    have hHeld : AllL W1.drew [(1, fun w' => w'.cell? ⟨g, 0, none⟩ = some (.bool na) ∧ w'.cell? ⟨g, 1, none⟩ = some (.slice ao al ac)), (2, fun w' => w'.cell? ⟨g + 1, 0, none⟩ = some (.bool nb) ∧ w'.cell? ⟨g + 1, 1, none⟩ = some (.slice bo bl bc) ∧ w'.cell? ⟨g + 1, 2, none⟩ = some (.slice bO bL bC))] := ⟨⟨(show QCell W1.drew (g) na (.slice ao al ac) (.slice aO aL aC) from qa).cells.1, (show QCell W1.drew (g) na (.slice ao al ac) (.slice aO aL aC) from qa).cells.2.1⟩, (show QCell W1.drew (g + 1) nb (.slice bo bl bc) (.slice bO bL bC) from qb).cells, trivial⟩
    refine late_fr 0 (v := .pointer (some ⟨g, 0, none⟩)) rfl (Or.inl ⟨by rfl, ?_⟩) hHeld ?_
    · (intro u _; go_simp)
    (try simp only [Act.put, putA, putB, putC])
    refine late_tk 1 (v := .agg #[.bool na, .slice ao al ac]) rfl (List.Mem.head _) (Or.inl ⟨by rfl, ?_⟩) hHeld ?_
    · (intro u hu; (try dsimp only at hu); go_split_ands; go_simp)
    (try simp only [Act.put, putA, putB, putC])
    refine late_tk 2 (v := .agg #[.bool nb, .slice bo bl bc, .slice bO bL bC]) rfl (List.Mem.tail _ (List.Mem.head _)) (Or.inl ⟨by rfl, ?_⟩) hHeld ?_
    · (intro u hu; (try dsimp only at hu); go_split_ands; go_simp)
    (try simp only [Act.put, putA, putB, putC])
    refine late_two 3 6 (by kernel_rfl) rfl rfl (fun K hK => ?_) (fun K hK => ?_)
    · go_simp
      refine (den3 (db.below (below_drew' _)) ⟨h1M, by omega⟩).mono ?_
      rintro e w2 ⟨m10o, m10l, m10c, rfl, im10, b2⟩
      have B2 : Below W1.heap.size W1 w2 := bstep (below_drew' _) b2
      clear hHeld
      have hHeld : AllL w2 [(1, fun w' => w'.cell? ⟨g, 0, none⟩ = some (.bool na) ∧ w'.cell? ⟨g, 1, none⟩ = some (.slice ao al ac)), (2, fun w' => w'.cell? ⟨g + 1, 0, none⟩ = some (.bool nb) ∧ w'.cell? ⟨g + 1, 1, none⟩ = some (.slice bo bl bc) ∧ w'.cell? ⟨g + 1, 2, none⟩ = some (.slice bO bL bC))] := ⟨⟨(qa.below B2).cells.1, (qa.below B2).cells.2.1⟩, (qb.below B2).cells, trivial⟩
      go_wp2_with fail
      refine hK.out _ _ (AllL.kept hHeld) ?_
      clear hK K
      (try simp only [Act.put, putA, putB, putC])
      refine late_two 4 6 (by kernel_rfl) rfl rfl (fun K hK => ?_) (fun K hK => ?_)
      · go_simp
        have im11 := (im10).ib
        refine (whole3 _ _ _ _).mono ?_
        rintro e w3 ⟨rfl, b3⟩
        replace im11 := im11.below b3
        have B3 : Below W1.heap.size W1 w3 := bstep B2 b3
        clear hHeld
        have hHeld : AllL w3 [(1, fun w' => w'.cell? ⟨g, 0, none⟩ = some (.bool na) ∧ w'.cell? ⟨g, 1, none⟩ = some (.slice ao al ac)), (2, fun w' => w'.cell? ⟨g + 1, 0, none⟩ = some (.bool nb) ∧ w'.cell? ⟨g + 1, 1, none⟩ = some (.slice bo bl bc) ∧ w'.cell? ⟨g + 1, 2, none⟩ = some (.slice bO bL bC))] := ⟨⟨(qa.below B3).cells.1, (qa.below B3).cells.2.1⟩, (qb.below B3).cells, trivial⟩
        go_wp2_with fail
        refine hK.out _ _ (AllL.kept hHeld) ?_
        clear hK K
        (try simp only [Act.put, putA, putB, putC])
        refine late_two 5 6 (by kernel_rfl) rfl rfl (fun K hK => ?_) (fun K hK => ?_)
        · go_simp
          have hsz9 := ((((ia.below (below_drew' _)).below b2).below b3)).sz.mul (im11).sz
          have hq := rmulE (((ia.below (below_drew' _)).below b2).below b3) im11 (by omega)
          refine hq.mono ?_
          rintro e w4 ⟨v, rfl, ⟨m, rfl, hm⟩, b4⟩
          clear hq
          obtain ⟨mo, ml, mc, rfl⟩ := hm.sl
          have B4 : Below W1.heap.size W1 w4 := bstep B3 b4
          clear hHeld
          have hHeld : AllL w4 [(1, fun w' => w'.cell? ⟨g, 0, none⟩ = some (.bool na) ∧ w'.cell? ⟨g, 1, none⟩ = some (.slice ao al ac)), (2, fun w' => w'.cell? ⟨g + 1, 0, none⟩ = some (.bool nb) ∧ w'.cell? ⟨g + 1, 1, none⟩ = some (.slice bo bl bc) ∧ w'.cell? ⟨g + 1, 2, none⟩ = some (.slice bO bL bC))] := ⟨⟨(qa.below B4).cells.1, (qa.below B4).cells.2.1⟩, (qb.below B4).cells, trivial⟩
          go_wp2_with fail
          refine hK.out _ _ (AllL.kept hHeld) ?_
          clear hK K
          (try simp only [Act.put, putA, putB, putC])
          refine late_st 6 rfl (fun K hK => ?_)
          go_simp
          obtain ⟨w5, hw5⟩ : ∃ u, u = w4.alloc (.cells #[.bool false, .slice none 0 0] 25) := ⟨_, rfl⟩
          have hp : ICell w5 w4.heap.size false (.slice none 0 0) := by rw [hw5]; exact icell_new _ rfl
          have b5 : Below w4.heap.size w4 w5 := by rw [hw5]; exact belowA _ _
          have B5 : Below W1.heap.size W1 w5 := bstep B4 b5
          rw [← hw5]
          obtain ⟨vx, hpv⟩ : ∃ v, v = w4.heap.size := ⟨_, rfl⟩
          have HPV : W1.heap.size ≤ vx := by rw [hpv]; exact B4.size
          have HPW : vx < w5.heap.size := by rw [hpv]; exact (Array.getElem?_eq_some_iff.1 hp).1
          have hne : (Value.slice mo ml mc).ownBlock = none ∨ (Value.slice mo ml mc).ownBlock ≠ some vx := (by rcases hu : (Value.slice mo ml mc).ownBlock with _ | k; exact .inl rfl; exact .inr fun e => by have h1 := (hm.block k hu).2; have h2 := Option.some.inj e; omega)
          replace hm := hm.below b5
          rw [← hpv] at hp ⊢
          clear hpv hw5
          clear hHeld
          have hHeld : AllL w5 [(1, fun w' => w'.cell? ⟨g, 0, none⟩ = some (.bool na) ∧ w'.cell? ⟨g, 1, none⟩ = some (.slice ao al ac)), (2, fun w' => w'.cell? ⟨g + 1, 0, none⟩ = some (.bool nb) ∧ w'.cell? ⟨g + 1, 1, none⟩ = some (.slice bo bl bc) ∧ w'.cell? ⟨g + 1, 2, none⟩ = some (.slice bO bL bC))] := ⟨⟨(qa.below B5).cells.1, (qa.below B5).cells.2.1⟩, (qb.below B5).cells, trivial⟩
          refine hK.out _ _ (AllL.kept hHeld) ?_
          clear hK K
          (try simp only [Act.put, putA, putB, putC])
          have HIB : Hid (ICell ((w5.setCell ⟨vx, 0, none⟩ (.bool (decide (p * und k < 0)))).setCell ⟨vx, 1, none⟩ (.slice mo ml mc)) vx (decide (p * und k < 0)) (.slice mo ml mc) ∧ IB ((w5.setCell ⟨vx, 0, none⟩ (.bool (decide (p * und k < 0)))).setCell ⟨vx, 1, none⟩ (.slice mo ml mc)) (.agg #[.bool (decide (p * und k < 0)), .slice mo ml mc]) (p * und k) (L + M) ∧ Below W1.heap.size W1 ((w5.setCell ⟨vx, 0, none⟩ (.bool (decide (p * und k < 0)))).setCell ⟨vx, 1, none⟩ (.slice mo ml mc))) := ⟨hp.write _ _, IOwn.ib ⟨_, rfl, (hm.other _ hne).other _ hne⟩ hsz9.len, (B5.setCell (p := ⟨vx, 0, none⟩) HPV _).setCell (p := ⟨vx, 1, none⟩) HPV _⟩
          have HVX : Hid (W1.heap.size ≤ vx) := HPV
          obtain ⟨y0, y1⟩ := hp.cells
          have f0 := hp.thaw 0
          have f1 := hp.thaw 1
          clear hsz9 hne hm hp HPW
          generalize decide (p * und k < 0) = bbn at *
          refine late_st 7 rfl (fun K hK => ?_)
          go_simp
          refine hK.out _ _ ⟨kpt 5, kpt 3, trivial⟩ ?_
          clear hK K
          (try simp only [Act.put, putA, putB, putC])
          refine late_done (by kernel_rfl) ?_ _
          clear hHeld y0 y1 f0 f1
          go_wp2_with fail
          go_meet
          exact ⟨_, _, _, _, _, rfl, HIB.out.1, HIB.out.2.1, HIB.out.2.2, HVX.out⟩
        · go_simp
          obtain ⟨w7, hw7⟩ : ∃ u, u = w3.alloc (.cells #[.bool false, .slice none 0 0] 25) := ⟨_, rfl⟩
          have hp : ICell w7 w3.heap.size false (.slice none 0 0) := by rw [hw7]; exact icell_new _ rfl
          have b7 : Below w3.heap.size w3 w7 := by rw [hw7]; exact belowA _ _
          have B7 : Below W1.heap.size W1 w7 := bstep B3 b7
          rw [← hw7]
          obtain ⟨vx, hpv⟩ : ∃ v, v = w3.heap.size := ⟨_, rfl⟩
          have HPV : W1.heap.size ≤ vx := by rw [hpv]; exact B3.size
          have HPW : vx < w7.heap.size := by rw [hpv]; exact (Array.getElem?_eq_some_iff.1 hp).1
          rw [← hpv] at hp ⊢
          clear hpv hw7
          clear hHeld
          have hHeld : AllL w7 [(1, fun w' => w'.cell? ⟨g, 0, none⟩ = some (.bool na) ∧ w'.cell? ⟨g, 1, none⟩ = some (.slice ao al ac)), (2, fun w' => w'.cell? ⟨g + 1, 0, none⟩ = some (.bool nb) ∧ w'.cell? ⟨g + 1, 1, none⟩ = some (.slice bo bl bc) ∧ w'.cell? ⟨g + 1, 2, none⟩ = some (.slice bO bL bC))] := ⟨⟨(qa.below B7).cells.1, (qa.below B7).cells.2.1⟩, (qb.below B7).cells, trivial⟩
          refine hK.out _ _ (AllL.kept hHeld) ?_
          clear hK K
          (try simp only [Act.put, putA, putB, putC])
          refine late_st 5 rfl (fun K hK => ?_)
          go_simp
          have hsz9 := (((((ia.below (below_drew' _)).below b2).below b3).below b7)).sz.mul ((im11.below b7)).sz
          have hq := rmulE ((((ia.below (below_drew' _)).below b2).below b3).below b7) (im11.below b7) (by omega)
          refine hq.mono ?_
          rintro e w8 ⟨v, rfl, ⟨m, rfl, hm⟩, b8⟩
          clear hq
          obtain ⟨mo, ml, mc, rfl⟩ := hm.sl
          have hne : (Value.slice mo ml mc).ownBlock = none ∨ (Value.slice mo ml mc).ownBlock ≠ some vx := (by rcases hu : (Value.slice mo ml mc).ownBlock with _ | k; exact .inl rfl; exact .inr fun e => by have h1 := (hm.block k hu).1; have h2 := Option.some.inj e; omega)
          have B8 : Below W1.heap.size W1 w8 := bstep B7 b8
          clear hHeld
          have hHeld : AllL w8 [(1, fun w' => w'.cell? ⟨g, 0, none⟩ = some (.bool na) ∧ w'.cell? ⟨g, 1, none⟩ = some (.slice ao al ac)), (2, fun w' => w'.cell? ⟨g + 1, 0, none⟩ = some (.bool nb) ∧ w'.cell? ⟨g + 1, 1, none⟩ = some (.slice bo bl bc) ∧ w'.cell? ⟨g + 1, 2, none⟩ = some (.slice bO bL bC))] := ⟨⟨(qa.below B8).cells.1, (qa.below B8).cells.2.1⟩, (qb.below B8).cells, trivial⟩
          go_wp2_with fail
          refine hK.out _ _ (AllL.kept hHeld) ?_
          clear hK K
          (try simp only [Act.put, putA, putB, putC])
          replace hp := hp.below b8
          replace HPW : vx < w8.heap.size := Nat.lt_of_lt_of_le HPW b8.size
          have HIB : Hid (ICell ((w8.setCell ⟨vx, 0, none⟩ (.bool (decide (p * und k < 0)))).setCell ⟨vx, 1, none⟩ (.slice mo ml mc)) vx (decide (p * und k < 0)) (.slice mo ml mc) ∧ IB ((w8.setCell ⟨vx, 0, none⟩ (.bool (decide (p * und k < 0)))).setCell ⟨vx, 1, none⟩ (.slice mo ml mc)) (.agg #[.bool (decide (p * und k < 0)), .slice mo ml mc]) (p * und k) (L + M) ∧ Below W1.heap.size W1 ((w8.setCell ⟨vx, 0, none⟩ (.bool (decide (p * und k < 0)))).setCell ⟨vx, 1, none⟩ (.slice mo ml mc))) := ⟨hp.write _ _, IOwn.ib ⟨_, rfl, (hm.other _ hne).other _ hne⟩ hsz9.len, (B8.setCell (p := ⟨vx, 0, none⟩) HPV _).setCell (p := ⟨vx, 1, none⟩) HPV _⟩
          have HVX : Hid (W1.heap.size ≤ vx) := HPV
          obtain ⟨y0, y1⟩ := hp.cells
          have f0 := hp.thaw 0
          have f1 := hp.thaw 1
          clear hsz9 hne hm hp HPW
          generalize decide (p * und k < 0) = bbn at *
          refine late_st 7 rfl (fun K hK => ?_)
          go_simp
          refine hK.out _ _ ⟨kpt 5, kpt 3, trivial⟩ ?_
          clear hK K
          (try simp only [Act.put, putA, putB, putC])
          refine late_done (by kernel_rfl) ?_ _
          clear hHeld y0 y1 f0 f1
          go_wp2_with fail
          go_meet
          exact ⟨_, _, _, _, _, rfl, HIB.out.1, HIB.out.2.1, HIB.out.2.2, HVX.out⟩
      · go_simp
        obtain ⟨w10, hw10⟩ : ∃ u, u = w2.alloc (.cells #[.bool false, .slice none 0 0] 25) := ⟨_, rfl⟩
        have hp : ICell w10 w2.heap.size false (.slice none 0 0) := by rw [hw10]; exact icell_new _ rfl
        have b10 : Below w2.heap.size w2 w10 := by rw [hw10]; exact belowA _ _
        have B10 : Below W1.heap.size W1 w10 := bstep B2 b10
        rw [← hw10]
        obtain ⟨vx, hpv⟩ : ∃ v, v = w2.heap.size := ⟨_, rfl⟩
        have HPV : W1.heap.size ≤ vx := by rw [hpv]; exact B2.size
        have HPW : vx < w10.heap.size := by rw [hpv]; exact (Array.getElem?_eq_some_iff.1 hp).1
        rw [← hpv] at hp ⊢
        clear hpv hw10
        clear hHeld
        have hHeld : AllL w10 [(1, fun w' => w'.cell? ⟨g, 0, none⟩ = some (.bool na) ∧ w'.cell? ⟨g, 1, none⟩ = some (.slice ao al ac)), (2, fun w' => w'.cell? ⟨g + 1, 0, none⟩ = some (.bool nb) ∧ w'.cell? ⟨g + 1, 1, none⟩ = some (.slice bo bl bc) ∧ w'.cell? ⟨g + 1, 2, none⟩ = some (.slice bO bL bC))] := ⟨⟨(qa.below B10).cells.1, (qa.below B10).cells.2.1⟩, (qb.below B10).cells, trivial⟩
        refine hK.out _ _ (AllL.kept hHeld) ?_
        clear hK K
        (try simp only [Act.put, putA, putB, putC])
        refine late_st 4 rfl (fun K hK => ?_)
        go_simp
        have im11 := ((im10.below b10)).ib
        refine (whole3 _ _ _ _).mono ?_
        rintro e w11 ⟨rfl, b11⟩
        replace im11 := im11.below b11
        have B11 : Below W1.heap.size W1 w11 := bstep B10 b11
        clear hHeld
        have hHeld : AllL w11 [(1, fun w' => w'.cell? ⟨g, 0, none⟩ = some (.bool na) ∧ w'.cell? ⟨g, 1, none⟩ = some (.slice ao al ac)), (2, fun w' => w'.cell? ⟨g + 1, 0, none⟩ = some (.bool nb) ∧ w'.cell? ⟨g + 1, 1, none⟩ = some (.slice bo bl bc) ∧ w'.cell? ⟨g + 1, 2, none⟩ = some (.slice bO bL bC))] := ⟨⟨(qa.below B11).cells.1, (qa.below B11).cells.2.1⟩, (qb.below B11).cells, trivial⟩
        go_wp2_with fail
        refine hK.out _ _ (AllL.kept hHeld) ?_
        clear hK K
        (try simp only [Act.put, putA, putB, putC])
        replace hp := hp.below b11
        replace HPW : vx < w11.heap.size := Nat.lt_of_lt_of_le HPW b11.size
        refine late_st 5 rfl (fun K hK => ?_)
        go_simp
        have hsz9 := (((((ia.below (below_drew' _)).below b2).below b10).below b11)).sz.mul (im11).sz
        have hq := rmulE ((((ia.below (below_drew' _)).below b2).below b10).below b11) im11 (by omega)
        refine hq.mono ?_
        rintro e w12 ⟨v, rfl, ⟨m, rfl, hm⟩, b12⟩
        clear hq
        obtain ⟨mo, ml, mc, rfl⟩ := hm.sl
        have hne : (Value.slice mo ml mc).ownBlock = none ∨ (Value.slice mo ml mc).ownBlock ≠ some vx := (by rcases hu : (Value.slice mo ml mc).ownBlock with _ | k; exact .inl rfl; exact .inr fun e => by have h1 := (hm.block k hu).1; have h2 := Option.some.inj e; omega)
        have B12 : Below W1.heap.size W1 w12 := bstep B11 b12
        clear hHeld
        have hHeld : AllL w12 [(1, fun w' => w'.cell? ⟨g, 0, none⟩ = some (.bool na) ∧ w'.cell? ⟨g, 1, none⟩ = some (.slice ao al ac)), (2, fun w' => w'.cell? ⟨g + 1, 0, none⟩ = some (.bool nb) ∧ w'.cell? ⟨g + 1, 1, none⟩ = some (.slice bo bl bc) ∧ w'.cell? ⟨g + 1, 2, none⟩ = some (.slice bO bL bC))] := ⟨⟨(qa.below B12).cells.1, (qa.below B12).cells.2.1⟩, (qb.below B12).cells, trivial⟩
        go_wp2_with fail
        refine hK.out _ _ (AllL.kept hHeld) ?_
        clear hK K
        (try simp only [Act.put, putA, putB, putC])
        replace hp := hp.below b12
        replace HPW : vx < w12.heap.size := Nat.lt_of_lt_of_le HPW b12.size
        have HIB : Hid (ICell ((w12.setCell ⟨vx, 0, none⟩ (.bool (decide (p * und k < 0)))).setCell ⟨vx, 1, none⟩ (.slice mo ml mc)) vx (decide (p * und k < 0)) (.slice mo ml mc) ∧ IB ((w12.setCell ⟨vx, 0, none⟩ (.bool (decide (p * und k < 0)))).setCell ⟨vx, 1, none⟩ (.slice mo ml mc)) (.agg #[.bool (decide (p * und k < 0)), .slice mo ml mc]) (p * und k) (L + M) ∧ Below W1.heap.size W1 ((w12.setCell ⟨vx, 0, none⟩ (.bool (decide (p * und k < 0)))).setCell ⟨vx, 1, none⟩ (.slice mo ml mc))) := ⟨hp.write _ _, IOwn.ib ⟨_, rfl, (hm.other _ hne).other _ hne⟩ hsz9.len, (B12.setCell (p := ⟨vx, 0, none⟩) HPV _).setCell (p := ⟨vx, 1, none⟩) HPV _⟩
        have HVX : Hid (W1.heap.size ≤ vx) := HPV
        obtain ⟨y0, y1⟩ := hp.cells
        have f0 := hp.thaw 0
        have f1 := hp.thaw 1
        clear hsz9 hne hm hp HPW
        generalize decide (p * und k < 0) = bbn at *
        refine late_st 7 rfl (fun K hK => ?_)
        go_simp
        refine hK.out _ _ ⟨kpt 5, kpt 3, trivial⟩ ?_
        clear hK K
        (try simp only [Act.put, putA, putB, putC])
        refine late_done (by kernel_rfl) ?_ _
        clear hHeld y0 y1 f0 f1
        go_wp2_with fail
        go_meet
        exact ⟨_, _, _, _, _, rfl, HIB.out.1, HIB.out.2.1, HIB.out.2.2, HVX.out⟩
    · go_simp
      obtain ⟨w14, hw14⟩ : ∃ u, u = (W1.alloc (.cells #[.bool false, .slice none 0 0] 25)).drew := ⟨_, rfl⟩
      have hp : ICell w14 W1.heap.size false (.slice none 0 0) := by rw [hw14]; exact icell_new _ rfl
      have b14 : Below W1.drew.heap.size W1.drew w14 := by rw [hw14]; exact belowA W1.drew _
      have B14 : Below W1.heap.size W1 w14 := bstep (below_drew' _) b14
      rw [← hw14]
      obtain ⟨vx, hpv⟩ : ∃ v, v = W1.heap.size := ⟨_, rfl⟩
      have HPV : W1.heap.size ≤ vx := by rw [hpv]; exact Nat.le_refl _
      have HPW : vx < w14.heap.size := by rw [hpv]; exact (Array.getElem?_eq_some_iff.1 hp).1
      rw [← hpv] at hp ⊢
      clear hpv hw14
      clear hHeld
      have hHeld : AllL w14 [(1, fun w' => w'.cell? ⟨g, 0, none⟩ = some (.bool na) ∧ w'.cell? ⟨g, 1, none⟩ = some (.slice ao al ac)), (2, fun w' => w'.cell? ⟨g + 1, 0, none⟩ = some (.bool nb) ∧ w'.cell? ⟨g + 1, 1, none⟩ = some (.slice bo bl bc) ∧ w'.cell? ⟨g + 1, 2, none⟩ = some (.slice bO bL bC))] := ⟨⟨(qa.below B14).cells.1, (qa.below B14).cells.2.1⟩, (qb.below B14).cells, trivial⟩
      refine hK.out _ _ (AllL.kept hHeld) ?_
      clear hK K
      (try simp only [Act.put, putA, putB, putC])
      refine late_st 3 rfl (fun K hK => ?_)
      go_simp
      refine (den3 ((db.below (below_drew' _)).below b14) ⟨h1M, by omega⟩).mono ?_
      rintro e w15 ⟨m10o, m10l, m10c, rfl, im10, b15⟩
      have B15 : Below W1.heap.size W1 w15 := bstep B14 b15
      clear hHeld
      have hHeld : AllL w15 [(1, fun w' => w'.cell? ⟨g, 0, none⟩ = some (.bool na) ∧ w'.cell? ⟨g, 1, none⟩ = some (.slice ao al ac)), (2, fun w' => w'.cell? ⟨g + 1, 0, none⟩ = some (.bool nb) ∧ w'.cell? ⟨g + 1, 1, none⟩ = some (.slice bo bl bc) ∧ w'.cell? ⟨g + 1, 2, none⟩ = some (.slice bO bL bC))] := ⟨⟨(qa.below B15).cells.1, (qa.below B15).cells.2.1⟩, (qb.below B15).cells, trivial⟩
      go_wp2_with fail
      refine hK.out _ _ (AllL.kept hHeld) ?_
      clear hK K
      (try simp only [Act.put, putA, putB, putC])
      replace hp := hp.below b15
      replace HPW : vx < w15.heap.size := Nat.lt_of_lt_of_le HPW b15.size
      refine late_st 4 rfl (fun K hK => ?_)
      go_simp
      have im11 := (im10).ib
      refine (whole3 _ _ _ _).mono ?_
      rintro e w16 ⟨rfl, b16⟩
      replace im11 := im11.below b16
      have B16 : Below W1.heap.size W1 w16 := bstep B15 b16
      clear hHeld
      have hHeld : AllL w16 [(1, fun w' => w'.cell? ⟨g, 0, none⟩ = some (.bool na) ∧ w'.cell? ⟨g, 1, none⟩ = some (.slice ao al ac)), (2, fun w' => w'.cell? ⟨g + 1, 0, none⟩ = some (.bool nb) ∧ w'.cell? ⟨g + 1, 1, none⟩ = some (.slice bo bl bc) ∧ w'.cell? ⟨g + 1, 2, none⟩ = some (.slice bO bL bC))] := ⟨⟨(qa.below B16).cells.1, (qa.below B16).cells.2.1⟩, (qb.below B16).cells, trivial⟩
      go_wp2_with fail
      refine hK.out _ _ (AllL.kept hHeld) ?_
      clear hK K
      (try simp only [Act.put, putA, putB, putC])
      replace hp := hp.below b16
      replace HPW : vx < w16.heap.size := Nat.lt_of_lt_of_le HPW b16.size
      refine late_st 5 rfl (fun K hK => ?_)
      go_simp
      have hsz9 := (((((ia.below (below_drew' _)).below b14).below b15).below b16)).sz.mul (im11).sz
      have hq := rmulE ((((ia.below (below_drew' _)).below b14).below b15).below b16) im11 (by omega)
      refine hq.mono ?_
      rintro e w17 ⟨v, rfl, ⟨m, rfl, hm⟩, b17⟩
      clear hq
      obtain ⟨mo, ml, mc, rfl⟩ := hm.sl
      have hne : (Value.slice mo ml mc).ownBlock = none ∨ (Value.slice mo ml mc).ownBlock ≠ some vx := (by rcases hu : (Value.slice mo ml mc).ownBlock with _ | k; exact .inl rfl; exact .inr fun e => by have h1 := (hm.block k hu).1; have h2 := Option.some.inj e; omega)
      have B17 : Below W1.heap.size W1 w17 := bstep B16 b17
      clear hHeld
      have hHeld : AllL w17 [(1, fun w' => w'.cell? ⟨g, 0, none⟩ = some (.bool na) ∧ w'.cell? ⟨g, 1, none⟩ = some (.slice ao al ac)), (2, fun w' => w'.cell? ⟨g + 1, 0, none⟩ = some (.bool nb) ∧ w'.cell? ⟨g + 1, 1, none⟩ = some (.slice bo bl bc) ∧ w'.cell? ⟨g + 1, 2, none⟩ = some (.slice bO bL bC))] := ⟨⟨(qa.below B17).cells.1, (qa.below B17).cells.2.1⟩, (qb.below B17).cells, trivial⟩
      go_wp2_with fail
      refine hK.out _ _ (AllL.kept hHeld) ?_
      clear hK K
      (try simp only [Act.put, putA, putB, putC])
      replace hp := hp.below b17
      replace HPW : vx < w17.heap.size := Nat.lt_of_lt_of_le HPW b17.size
      have HIB : Hid (ICell ((w17.setCell ⟨vx, 0, none⟩ (.bool (decide (p * und k < 0)))).setCell ⟨vx, 1, none⟩ (.slice mo ml mc)) vx (decide (p * und k < 0)) (.slice mo ml mc) ∧ IB ((w17.setCell ⟨vx, 0, none⟩ (.bool (decide (p * und k < 0)))).setCell ⟨vx, 1, none⟩ (.slice mo ml mc)) (.agg #[.bool (decide (p * und k < 0)), .slice mo ml mc]) (p * und k) (L + M) ∧ Below W1.heap.size W1 ((w17.setCell ⟨vx, 0, none⟩ (.bool (decide (p * und k < 0)))).setCell ⟨vx, 1, none⟩ (.slice mo ml mc))) := ⟨hp.write _ _, IOwn.ib ⟨_, rfl, (hm.other _ hne).other _ hne⟩ hsz9.len, (B17.setCell (p := ⟨vx, 0, none⟩) HPV _).setCell (p := ⟨vx, 1, none⟩) HPV _⟩
      have HVX : Hid (W1.heap.size ≤ vx) := HPV
      obtain ⟨y0, y1⟩ := hp.cells
      have f0 := hp.thaw 0
      have f1 := hp.thaw 1
      clear hsz9 hne hm hp HPW
      generalize decide (p * und k < 0) = bbn at *
      refine late_st 7 rfl (fun K hK => ?_)
      go_simp
      refine hK.out _ _ ⟨kpt 5, kpt 3, trivial⟩ ?_
      clear hK K
      (try simp only [Act.put, putA, putB, putC])
      refine late_done (by kernel_rfl) ?_ _
      clear hHeld y0 y1 f0 f1
      go_wp2_with fail
      go_meet
      exact ⟨_, _, _, _, _, rfl, HIB.out.1, HIB.out.2.1, HIB.out.2.2, HVX.out⟩
  case rest =>
    obtain ⟨wx, hwwx⟩ : ∃ W, W = wc := ⟨_, rfl⟩
    rw [← hwwx] at hcut ⊢
    clear hwwx
    obtain ⟨vx, nx, xo, xl, xc, rfl, qx, ix, b, hvx⟩ := hcut
    replace ia := ia.below b
    replace ib := ib.below b
    replace da := da.below b
    replace db := db.below b
    replace qa := qa.below b
    replace qb := qb.below b
    replace qR := qR.below b
    replace hb := bstep hb b
    replace hsz := Nat.lt_of_lt_of_le hsz b.size
    clear b
    obtain ⟨cqa0, cqa1, cqa2⟩ := qa.cells
    obtain ⟨cqb0, cqb1, cqb2⟩ := qb.cells
    obtain ⟨cqR0, cqR1, cqR2⟩ := qR.cells
    obtain ⟨cqx0, cqx1⟩ := qx.cells
    go_wp2_with fail
    clear cqa0 cqa1 cqa2 cqb0 cqb1 cqb2 cqR0 cqR1 cqR2 cqx0 cqx1
    go_cut [6] (fun t wy => ∃ vy ny yo yl yc, t = .pointer (some ⟨vy, 0, none⟩) ∧ ICell wy vy ny (.slice yo yl yc) ∧ IB wy (.agg #[.bool ny, .slice yo yl yc]) (r * und q) (M + L) ∧ Below wx.heap.size wx wy ∧ wx.heap.size ≤ vy)
    case first =>
      refine region_late [(1, fun w' => w'.cell? ⟨g + 1, 0, none⟩ = some (.bool nb) ∧ w'.cell? ⟨g + 1, 1, none⟩ = some (.slice bo bl bc)), (2, fun w' => w'.cell? ⟨g, 0, none⟩ = some (.bool na) ∧ w'.cell? ⟨g, 1, none⟩ = some (.slice ao al ac) ∧ w'.cell? ⟨g, 2, none⟩ = some (.slice aO aL aC))] (by kernel_rfl) ?_
      have hHeld : AllL wx.drew [(1, fun w' => w'.cell? ⟨g + 1, 0, none⟩ = some (.bool nb) ∧ w'.cell? ⟨g + 1, 1, none⟩ = some (.slice bo bl bc)), (2, fun w' => w'.cell? ⟨g, 0, none⟩ = some (.bool na) ∧ w'.cell? ⟨g, 1, none⟩ = some (.slice ao al ac) ∧ w'.cell? ⟨g, 2, none⟩ = some (.slice aO aL aC))] := ⟨⟨(show QCell wx.drew (g + 1) nb (.slice bo bl bc) (.slice bO bL bC) from qb).cells.1, (show QCell wx.drew (g + 1) nb (.slice bo bl bc) (.slice bO bL bC) from qb).cells.2.1⟩, (show QCell wx.drew (g) na (.slice ao al ac) (.slice aO aL aC) from qa).cells, trivial⟩
      refine late_fr 0 (v := .pointer (some ⟨g + 1, 0, none⟩)) rfl (Or.inl ⟨by rfl, ?_⟩) hHeld ?_
      · (intro u _; go_simp)
      (try simp only [Act.put, putA, putB, putC])
      refine late_tk 1 (v := .agg #[.bool nb, .slice bo bl bc]) rfl (List.Mem.head _) (Or.inl ⟨by rfl, ?_⟩) hHeld ?_
      · (intro u hu; (try dsimp only at hu); go_split_ands; go_simp)
      (try simp only [Act.put, putA, putB, putC])
      refine late_tk 2 (v := .agg #[.bool na, .slice ao al ac, .slice aO aL aC]) rfl (List.Mem.tail _ (List.Mem.head _)) (Or.inl ⟨by rfl, ?_⟩) hHeld ?_
      · (intro u hu; (try dsimp only at hu); go_split_ands; go_simp)
      (try simp only [Act.put, putA, putB, putC])
      refine late_two 3 6 (by kernel_rfl) rfl rfl (fun K hK => ?_) (fun K hK => ?_)
      · go_simp
        refine (den3 (da.below (below_drew' _)) ⟨h1L, by omega⟩).mono ?_
        rintro e w19 ⟨m16o, m16l, m16c, rfl, im16, b19⟩
        have B19 : Below wx.heap.size wx w19 := bstep (below_drew' _) b19
        clear hHeld
        have hHeld : AllL w19 [(1, fun w' => w'.cell? ⟨g + 1, 0, none⟩ = some (.bool nb) ∧ w'.cell? ⟨g + 1, 1, none⟩ = some (.slice bo bl bc)), (2, fun w' => w'.cell? ⟨g, 0, none⟩ = some (.bool na) ∧ w'.cell? ⟨g, 1, none⟩ = some (.slice ao al ac) ∧ w'.cell? ⟨g, 2, none⟩ = some (.slice aO aL aC))] := ⟨⟨(qb.below B19).cells.1, (qb.below B19).cells.2.1⟩, (qa.below B19).cells, trivial⟩
        go_wp2_with fail
        refine hK.out _ _ (AllL.kept hHeld) ?_
        clear hK K
        (try simp only [Act.put, putA, putB, putC])
        refine late_two 4 6 (by kernel_rfl) rfl rfl (fun K hK => ?_) (fun K hK => ?_)
        · go_simp
          have im17 := (im16).ib
          refine (whole3 _ _ _ _).mono ?_
          rintro e w20 ⟨rfl, b20⟩
          replace im17 := im17.below b20
          have B20 : Below wx.heap.size wx w20 := bstep B19 b20
          clear hHeld
          have hHeld : AllL w20 [(1, fun w' => w'.cell? ⟨g + 1, 0, none⟩ = some (.bool nb) ∧ w'.cell? ⟨g + 1, 1, none⟩ = some (.slice bo bl bc)), (2, fun w' => w'.cell? ⟨g, 0, none⟩ = some (.bool na) ∧ w'.cell? ⟨g, 1, none⟩ = some (.slice ao al ac) ∧ w'.cell? ⟨g, 2, none⟩ = some (.slice aO aL aC))] := ⟨⟨(qb.below B20).cells.1, (qb.below B20).cells.2.1⟩, (qa.below B20).cells, trivial⟩
          go_wp2_with fail
          refine hK.out _ _ (AllL.kept hHeld) ?_
          clear hK K
          (try simp only [Act.put, putA, putB, putC])
          refine late_two 5 6 (by kernel_rfl) rfl rfl (fun K hK => ?_) (fun K hK => ?_)
          · go_simp
            have hsz9 := ((((ib.below (below_drew' _)).below b19).below b20)).sz.mul (im17).sz
            have hq := rmulE (((ib.below (below_drew' _)).below b19).below b20) im17 (by omega)
            refine hq.mono ?_
            rintro e w21 ⟨v, rfl, ⟨m, rfl, hm⟩, b21⟩
            clear hq
            obtain ⟨mo, ml, mc, rfl⟩ := hm.sl
            have B21 : Below wx.heap.size wx w21 := bstep B20 b21
            clear hHeld
            have hHeld : AllL w21 [(1, fun w' => w'.cell? ⟨g + 1, 0, none⟩ = some (.bool nb) ∧ w'.cell? ⟨g + 1, 1, none⟩ = some (.slice bo bl bc)), (2, fun w' => w'.cell? ⟨g, 0, none⟩ = some (.bool na) ∧ w'.cell? ⟨g, 1, none⟩ = some (.slice ao al ac) ∧ w'.cell? ⟨g, 2, none⟩ = some (.slice aO aL aC))] := ⟨⟨(qb.below B21).cells.1, (qb.below B21).cells.2.1⟩, (qa.below B21).cells, trivial⟩
            go_wp2_with fail
            refine hK.out _ _ (AllL.kept hHeld) ?_
            clear hK K
            (try simp only [Act.put, putA, putB, putC])
            refine late_st 6 rfl (fun K hK => ?_)
            go_simp
            obtain ⟨w22, hw22⟩ : ∃ u, u = w21.alloc (.cells #[.bool false, .slice none 0 0] 25) := ⟨_, rfl⟩
            have hp : ICell w22 w21.heap.size false (.slice none 0 0) := by rw [hw22]; exact icell_new _ rfl
            have b22 : Below w21.heap.size w21 w22 := by rw [hw22]; exact belowA _ _
            have B22 : Below wx.heap.size wx w22 := bstep B21 b22
            rw [← hw22]
            obtain ⟨vy, hpv⟩ : ∃ v, v = w21.heap.size := ⟨_, rfl⟩
            have HPV : wx.heap.size ≤ vy := by rw [hpv]; exact B21.size
            have HPW : vy < w22.heap.size := by rw [hpv]; exact (Array.getElem?_eq_some_iff.1 hp).1
            have hne : (Value.slice mo ml mc).ownBlock = none ∨ (Value.slice mo ml mc).ownBlock ≠ some vy := (by rcases hu : (Value.slice mo ml mc).ownBlock with _ | k; exact .inl rfl; exact .inr fun e => by have h1 := (hm.block k hu).2; have h2 := Option.some.inj e; omega)
            replace hm := hm.below b22
            rw [← hpv] at hp ⊢
            clear hpv hw22
            clear hHeld
            have hHeld : AllL w22 [(1, fun w' => w'.cell? ⟨g + 1, 0, none⟩ = some (.bool nb) ∧ w'.cell? ⟨g + 1, 1, none⟩ = some (.slice bo bl bc)), (2, fun w' => w'.cell? ⟨g, 0, none⟩ = some (.bool na) ∧ w'.cell? ⟨g, 1, none⟩ = some (.slice ao al ac) ∧ w'.cell? ⟨g, 2, none⟩ = some (.slice aO aL aC))] := ⟨⟨(qb.below B22).cells.1, (qb.below B22).cells.2.1⟩, (qa.below B22).cells, trivial⟩
            refine hK.out _ _ (AllL.kept hHeld) ?_
            clear hK K
            (try simp only [Act.put, putA, putB, putC])
            have HIB : Hid (ICell ((w22.setCell ⟨vy, 0, none⟩ (.bool (decide (r * und q < 0)))).setCell ⟨vy, 1, none⟩ (.slice mo ml mc)) vy (decide (r * und q < 0)) (.slice mo ml mc) ∧ IB ((w22.setCell ⟨vy, 0, none⟩ (.bool (decide (r * und q < 0)))).setCell ⟨vy, 1, none⟩ (.slice mo ml mc)) (.agg #[.bool (decide (r * und q < 0)), .slice mo ml mc]) (r * und q) (M + L) ∧ Below wx.heap.size wx ((w22.setCell ⟨vy, 0, none⟩ (.bool (decide (r * und q < 0)))).setCell ⟨vy, 1, none⟩ (.slice mo ml mc))) := ⟨hp.write _ _, IOwn.ib ⟨_, rfl, (hm.other _ hne).other _ hne⟩ hsz9.len, (B22.setCell (p := ⟨vy, 0, none⟩) HPV _).setCell (p := ⟨vy, 1, none⟩) HPV _⟩
            have HVX : Hid (wx.heap.size ≤ vy) := HPV
            obtain ⟨y0, y1⟩ := hp.cells
            have f0 := hp.thaw 0
            have f1 := hp.thaw 1
            clear hsz9 hne hm hp HPW
            generalize decide (r * und q < 0) = bbn at *
            refine late_st 7 rfl (fun K hK => ?_)
            go_simp
            refine hK.out _ _ ⟨kpt 5, kpt 3, trivial⟩ ?_
            clear hK K
            (try simp only [Act.put, putA, putB, putC])
            refine late_done (by kernel_rfl) ?_ _
            clear hHeld y0 y1 f0 f1
            go_wp2_with fail
            go_meet
            exact ⟨_, _, _, _, _, rfl, HIB.out.1, HIB.out.2.1, HIB.out.2.2, HVX.out⟩
          · go_simp
            obtain ⟨w24, hw24⟩ : ∃ u, u = w20.alloc (.cells #[.bool false, .slice none 0 0] 25) := ⟨_, rfl⟩
            have hp : ICell w24 w20.heap.size false (.slice none 0 0) := by rw [hw24]; exact icell_new _ rfl
            have b24 : Below w20.heap.size w20 w24 := by rw [hw24]; exact belowA _ _
            have B24 : Below wx.heap.size wx w24 := bstep B20 b24
            rw [← hw24]
            obtain ⟨vy, hpv⟩ : ∃ v, v = w20.heap.size := ⟨_, rfl⟩
            have HPV : wx.heap.size ≤ vy := by rw [hpv]; exact B20.size
            have HPW : vy < w24.heap.size := by rw [hpv]; exact (Array.getElem?_eq_some_iff.1 hp).1
            rw [← hpv] at hp ⊢
            clear hpv hw24
            clear hHeld
            have hHeld : AllL w24 [(1, fun w' => w'.cell? ⟨g + 1, 0, none⟩ = some (.bool nb) ∧ w'.cell? ⟨g + 1, 1, none⟩ = some (.slice bo bl bc)), (2, fun w' => w'.cell? ⟨g, 0, none⟩ = some (.bool na) ∧ w'.cell? ⟨g, 1, none⟩ = some (.slice ao al ac) ∧ w'.cell? ⟨g, 2, none⟩ = some (.slice aO aL aC))] := ⟨⟨(qb.below B24).cells.1, (qb.below B24).cells.2.1⟩, (qa.below B24).cells, trivial⟩
            refine hK.out _ _ (AllL.kept hHeld) ?_
            clear hK K
            (try simp only [Act.put, putA, putB, putC])
            refine late_st 5 rfl (fun K hK => ?_)
            go_simp
            have hsz9 := (((((ib.below (below_drew' _)).below b19).below b20).below b24)).sz.mul ((im17.below b24)).sz
            have hq := rmulE ((((ib.below (below_drew' _)).below b19).below b20).below b24) (im17.below b24) (by omega)
            refine hq.mono ?_
            rintro e w25 ⟨v, rfl, ⟨m, rfl, hm⟩, b25⟩
            clear hq
            obtain ⟨mo, ml, mc, rfl⟩ := hm.sl
            have hne : (Value.slice mo ml mc).ownBlock = none ∨ (Value.slice mo ml mc).ownBlock ≠ some vy := (by rcases hu : (Value.slice mo ml mc).ownBlock with _ | k; exact .inl rfl; exact .inr fun e => by have h1 := (hm.block k hu).1; have h2 := Option.some.inj e; omega)
            have B25 : Below wx.heap.size wx w25 := bstep B24 b25
            clear hHeld
            have hHeld : AllL w25 [(1, fun w' => w'.cell? ⟨g + 1, 0, none⟩ = some (.bool nb) ∧ w'.cell? ⟨g + 1, 1, none⟩ = some (.slice bo bl bc)), (2, fun w' => w'.cell? ⟨g, 0, none⟩ = some (.bool na) ∧ w'.cell? ⟨g, 1, none⟩ = some (.slice ao al ac) ∧ w'.cell? ⟨g, 2, none⟩ = some (.slice aO aL aC))] := ⟨⟨(qb.below B25).cells.1, (qb.below B25).cells.2.1⟩, (qa.below B25).cells, trivial⟩
            go_wp2_with fail
            refine hK.out _ _ (AllL.kept hHeld) ?_
            clear hK K
            (try simp only [Act.put, putA, putB, putC])
            replace hp := hp.below b25
            replace HPW : vy < w25.heap.size := Nat.lt_of_lt_of_le HPW b25.size
            have HIB : Hid (ICell ((w25.setCell ⟨vy, 0, none⟩ (.bool (decide (r * und q < 0)))).setCell ⟨vy, 1, none⟩ (.slice mo ml mc)) vy (decide (r * und q < 0)) (.slice mo ml mc) ∧ IB ((w25.setCell ⟨vy, 0, none⟩ (.bool (decide (r * und q < 0)))).setCell ⟨vy, 1, none⟩ (.slice mo ml mc)) (.agg #[.bool (decide (r * und q < 0)), .slice mo ml mc]) (r * und q) (M + L) ∧ Below wx.heap.size wx ((w25.setCell ⟨vy, 0, none⟩ (.bool (decide (r * und q < 0)))).setCell ⟨vy, 1, none⟩ (.slice mo ml mc))) := ⟨hp.write _ _, IOwn.ib ⟨_, rfl, (hm.other _ hne).other _ hne⟩ hsz9.len, (B25.setCell (p := ⟨vy, 0, none⟩) HPV _).setCell (p := ⟨vy, 1, none⟩) HPV _⟩
            have HVX : Hid (wx.heap.size ≤ vy) := HPV
            obtain ⟨y0, y1⟩ := hp.cells
            have f0 := hp.thaw 0
            have f1 := hp.thaw 1
            clear hsz9 hne hm hp HPW
            generalize decide (r * und q < 0) = bbn at *
            refine late_st 7 rfl (fun K hK => ?_)
            go_simp
            refine hK.out _ _ ⟨kpt 5, kpt 3, trivial⟩ ?_
            clear hK K
            (try simp only [Act.put, putA, putB, putC])
            refine late_done (by kernel_rfl) ?_ _
            clear hHeld y0 y1 f0 f1
            go_wp2_with fail
            go_meet
            exact ⟨_, _, _, _, _, rfl, HIB.out.1, HIB.out.2.1, HIB.out.2.2, HVX.out⟩
        · go_simp
          obtain ⟨w27, hw27⟩ : ∃ u, u = w19.alloc (.cells #[.bool false, .slice none 0 0] 25) := ⟨_, rfl⟩
          have hp : ICell w27 w19.heap.size false (.slice none 0 0) := by rw [hw27]; exact icell_new _ rfl
          have b27 : Below w19.heap.size w19 w27 := by rw [hw27]; exact belowA _ _
          have B27 : Below wx.heap.size wx w27 := bstep B19 b27
          rw [← hw27]
          obtain ⟨vy, hpv⟩ : ∃ v, v = w19.heap.size := ⟨_, rfl⟩
          have HPV : wx.heap.size ≤ vy := by rw [hpv]; exact B19.size
          have HPW : vy < w27.heap.size := by rw [hpv]; exact (Array.getElem?_eq_some_iff.1 hp).1
          rw [← hpv] at hp ⊢
          clear hpv hw27
          clear hHeld
          have hHeld : AllL w27 [(1, fun w' => w'.cell? ⟨g + 1, 0, none⟩ = some (.bool nb) ∧ w'.cell? ⟨g + 1, 1, none⟩ = some (.slice bo bl bc)), (2, fun w' => w'.cell? ⟨g, 0, none⟩ = some (.bool na) ∧ w'.cell? ⟨g, 1, none⟩ = some (.slice ao al ac) ∧ w'.cell? ⟨g, 2, none⟩ = some (.slice aO aL aC))] := ⟨⟨(qb.below B27).cells.1, (qb.below B27).cells.2.1⟩, (qa.below B27).cells, trivial⟩
          refine hK.out _ _ (AllL.kept hHeld) ?_
          clear hK K
          (try simp only [Act.put, putA, putB, putC])
          refine late_st 4 rfl (fun K hK => ?_)
          go_simp
          have im17 := ((im16.below b27)).ib
          refine (whole3 _ _ _ _).mono ?_
          rintro e w28 ⟨rfl, b28⟩
          replace im17 := im17.below b28
          have B28 : Below wx.heap.size wx w28 := bstep B27 b28
          clear hHeld
          have hHeld : AllL w28 [(1, fun w' => w'.cell? ⟨g + 1, 0, none⟩ = some (.bool nb) ∧ w'.cell? ⟨g + 1, 1, none⟩ = some (.slice bo bl bc)), (2, fun w' => w'.cell? ⟨g, 0, none⟩ = some (.bool na) ∧ w'.cell? ⟨g, 1, none⟩ = some (.slice ao al ac) ∧ w'.cell? ⟨g, 2, none⟩ = some (.slice aO aL aC))] := ⟨⟨(qb.below B28).cells.1, (qb.below B28).cells.2.1⟩, (qa.below B28).cells, trivial⟩
          go_wp2_with fail
          refine hK.out _ _ (AllL.kept hHeld) ?_
          clear hK K
          (try simp only [Act.put, putA, putB, putC])
          replace hp := hp.below b28
          replace HPW : vy < w28.heap.size := Nat.lt_of_lt_of_le HPW b28.size
          refine late_st 5 rfl (fun K hK => ?_)
          go_simp
          have hsz9 := (((((ib.below (below_drew' _)).below b19).below b27).below b28)).sz.mul (im17).sz
          have hq := rmulE ((((ib.below (below_drew' _)).below b19).below b27).below b28) im17 (by omega)
          refine hq.mono ?_
          rintro e w29 ⟨v, rfl, ⟨m, rfl, hm⟩, b29⟩
          clear hq
          obtain ⟨mo, ml, mc, rfl⟩ := hm.sl
          have hne : (Value.slice mo ml mc).ownBlock = none ∨ (Value.slice mo ml mc).ownBlock ≠ some vy := (by rcases hu : (Value.slice mo ml mc).ownBlock with _ | k; exact .inl rfl; exact .inr fun e => by have h1 := (hm.block k hu).1; have h2 := Option.some.inj e; omega)
          have B29 : Below wx.heap.size wx w29 := bstep B28 b29
          clear hHeld
          have hHeld : AllL w29 [(1, fun w' => w'.cell? ⟨g + 1, 0, none⟩ = some (.bool nb) ∧ w'.cell? ⟨g + 1, 1, none⟩ = some (.slice bo bl bc)), (2, fun w' => w'.cell? ⟨g, 0, none⟩ = some (.bool na) ∧ w'.cell? ⟨g, 1, none⟩ = some (.slice ao al ac) ∧ w'.cell? ⟨g, 2, none⟩ = some (.slice aO aL aC))] := ⟨⟨(qb.below B29).cells.1, (qb.below B29).cells.2.1⟩, (qa.below B29).cells, trivial⟩
          go_wp2_with fail
          refine hK.out _ _ (AllL.kept hHeld) ?_
          clear hK K
          (try simp only [Act.put, putA, putB, putC])
          replace hp := hp.below b29
          replace HPW : vy < w29.heap.size := Nat.lt_of_lt_of_le HPW b29.size
          have HIB : Hid (ICell ((w29.setCell ⟨vy, 0, none⟩ (.bool (decide (r * und q < 0)))).setCell ⟨vy, 1, none⟩ (.slice mo ml mc)) vy (decide (r * und q < 0)) (.slice mo ml mc) ∧ IB ((w29.setCell ⟨vy, 0, none⟩ (.bool (decide (r * und q < 0)))).setCell ⟨vy, 1, none⟩ (.slice mo ml mc)) (.agg #[.bool (decide (r * und q < 0)), .slice mo ml mc]) (r * und q) (M + L) ∧ Below wx.heap.size wx ((w29.setCell ⟨vy, 0, none⟩ (.bool (decide (r * und q < 0)))).setCell ⟨vy, 1, none⟩ (.slice mo ml mc))) := ⟨hp.write _ _, IOwn.ib ⟨_, rfl, (hm.other _ hne).other _ hne⟩ hsz9.len, (B29.setCell (p := ⟨vy, 0, none⟩) HPV _).setCell (p := ⟨vy, 1, none⟩) HPV _⟩
          have HVX : Hid (wx.heap.size ≤ vy) := HPV
          obtain ⟨y0, y1⟩ := hp.cells
          have f0 := hp.thaw 0
          have f1 := hp.thaw 1
          clear hsz9 hne hm hp HPW
          generalize decide (r * und q < 0) = bbn at *
          refine late_st 7 rfl (fun K hK => ?_)
          go_simp
          refine hK.out _ _ ⟨kpt 5, kpt 3, trivial⟩ ?_
          clear hK K
          (try simp only [Act.put, putA, putB, putC])
          refine late_done (by kernel_rfl) ?_ _
          clear hHeld y0 y1 f0 f1
          go_wp2_with fail
          go_meet
          exact ⟨_, _, _, _, _, rfl, HIB.out.1, HIB.out.2.1, HIB.out.2.2, HVX.out⟩
      · go_simp
        obtain ⟨w31, hw31⟩ : ∃ u, u = (wx.alloc (.cells #[.bool false, .slice none 0 0] 25)).drew := ⟨_, rfl⟩
        have hp : ICell w31 wx.heap.size false (.slice none 0 0) := by rw [hw31]; exact icell_new _ rfl
        have b31 : Below wx.drew.heap.size wx.drew w31 := by rw [hw31]; exact belowA wx.drew _
        have B31 : Below wx.heap.size wx w31 := bstep (below_drew' _) b31
        rw [← hw31]
        obtain ⟨vy, hpv⟩ : ∃ v, v = wx.heap.size := ⟨_, rfl⟩
        have HPV : wx.heap.size ≤ vy := by rw [hpv]; exact Nat.le_refl _
        have HPW : vy < w31.heap.size := by rw [hpv]; exact (Array.getElem?_eq_some_iff.1 hp).1
        rw [← hpv] at hp ⊢
        clear hpv hw31
        clear hHeld
        have hHeld : AllL w31 [(1, fun w' => w'.cell? ⟨g + 1, 0, none⟩ = some (.bool nb) ∧ w'.cell? ⟨g + 1, 1, none⟩ = some (.slice bo bl bc)), (2, fun w' => w'.cell? ⟨g, 0, none⟩ = some (.bool na) ∧ w'.cell? ⟨g, 1, none⟩ = some (.slice ao al ac) ∧ w'.cell? ⟨g, 2, none⟩ = some (.slice aO aL aC))] := ⟨⟨(qb.below B31).cells.1, (qb.below B31).cells.2.1⟩, (qa.below B31).cells, trivial⟩
        refine hK.out _ _ (AllL.kept hHeld) ?_
        clear hK K
        (try simp only [Act.put, putA, putB, putC])
        refine late_st 3 rfl (fun K hK => ?_)
        go_simp
        refine (den3 ((da.below (below_drew' _)).below b31) ⟨h1L, by omega⟩).mono ?_
        rintro e w32 ⟨m16o, m16l, m16c, rfl, im16, b32⟩
        have B32 : Below wx.heap.size wx w32 := bstep B31 b32
        clear hHeld
        have hHeld : AllL w32 [(1, fun w' => w'.cell? ⟨g + 1, 0, none⟩ = some (.bool nb) ∧ w'.cell? ⟨g + 1, 1, none⟩ = some (.slice bo bl bc)), (2, fun w' => w'.cell? ⟨g, 0, none⟩ = some (.bool na) ∧ w'.cell? ⟨g, 1, none⟩ = some (.slice ao al ac) ∧ w'.cell? ⟨g, 2, none⟩ = some (.slice aO aL aC))] := ⟨⟨(qb.below B32).cells.1, (qb.below B32).cells.2.1⟩, (qa.below B32).cells, trivial⟩
        go_wp2_with fail
        refine hK.out _ _ (AllL.kept hHeld) ?_
        clear hK K
        (try simp only [Act.put, putA, putB, putC])
        replace hp := hp.below b32
        replace HPW : vy < w32.heap.size := Nat.lt_of_lt_of_le HPW b32.size
        refine late_st 4 rfl (fun K hK => ?_)
        go_simp
        have im17 := (im16).ib
        refine (whole3 _ _ _ _).mono ?_
        rintro e w33 ⟨rfl, b33⟩
        replace im17 := im17.below b33
        have B33 : Below wx.heap.size wx w33 := bstep B32 b33
        clear hHeld
        have hHeld : AllL w33 [(1, fun w' => w'.cell? ⟨g + 1, 0, none⟩ = some (.bool nb) ∧ w'.cell? ⟨g + 1, 1, none⟩ = some (.slice bo bl bc)), (2, fun w' => w'.cell? ⟨g, 0, none⟩ = some (.bool na) ∧ w'.cell? ⟨g, 1, none⟩ = some (.slice ao al ac) ∧ w'.cell? ⟨g, 2, none⟩ = some (.slice aO aL aC))] := ⟨⟨(qb.below B33).cells.1, (qb.below B33).cells.2.1⟩, (qa.below B33).cells, trivial⟩
        go_wp2_with fail
        refine hK.out _ _ (AllL.kept hHeld) ?_
        clear hK K
        (try simp only [Act.put, putA, putB, putC])
        replace hp := hp.below b33
        replace HPW : vy < w33.heap.size := Nat.lt_of_lt_of_le HPW b33.size
        refine late_st 5 rfl (fun K hK => ?_)
        go_simp
        have hsz9 := (((((ib.below (below_drew' _)).below b31).below b32).below b33)).sz.mul (im17).sz
        have hq := rmulE ((((ib.below (below_drew' _)).below b31).below b32).below b33) im17 (by omega)
        refine hq.mono ?_
        rintro e w34 ⟨v, rfl, ⟨m, rfl, hm⟩, b34⟩
        clear hq
        obtain ⟨mo, ml, mc, rfl⟩ := hm.sl
        have hne : (Value.slice mo ml mc).ownBlock = none ∨ (Value.slice mo ml mc).ownBlock ≠ some vy := (by rcases hu : (Value.slice mo ml mc).ownBlock with _ | k; exact .inl rfl; exact .inr fun e => by have h1 := (hm.block k hu).1; have h2 := Option.some.inj e; omega)
        have B34 : Below wx.heap.size wx w34 := bstep B33 b34
        clear hHeld
        have hHeld : AllL w34 [(1, fun w' => w'.cell? ⟨g + 1, 0, none⟩ = some (.bool nb) ∧ w'.cell? ⟨g + 1, 1, none⟩ = some (.slice bo bl bc)), (2, fun w' => w'.cell? ⟨g, 0, none⟩ = some (.bool na) ∧ w'.cell? ⟨g, 1, none⟩ = some (.slice ao al ac) ∧ w'.cell? ⟨g, 2, none⟩ = some (.slice aO aL aC))] := ⟨⟨(qb.below B34).cells.1, (qb.below B34).cells.2.1⟩, (qa.below B34).cells, trivial⟩
        go_wp2_with fail
        refine hK.out _ _ (AllL.kept hHeld) ?_
        clear hK K
        (try simp only [Act.put, putA, putB, putC])
        replace hp := hp.below b34
        replace HPW : vy < w34.heap.size := Nat.lt_of_lt_of_le HPW b34.size
        have HIB : Hid (ICell ((w34.setCell ⟨vy, 0, none⟩ (.bool (decide (r * und q < 0)))).setCell ⟨vy, 1, none⟩ (.slice mo ml mc)) vy (decide (r * und q < 0)) (.slice mo ml mc) ∧ IB ((w34.setCell ⟨vy, 0, none⟩ (.bool (decide (r * und q < 0)))).setCell ⟨vy, 1, none⟩ (.slice mo ml mc)) (.agg #[.bool (decide (r * und q < 0)), .slice mo ml mc]) (r * und q) (M + L) ∧ Below wx.heap.size wx ((w34.setCell ⟨vy, 0, none⟩ (.bool (decide (r * und q < 0)))).setCell ⟨vy, 1, none⟩ (.slice mo ml mc))) := ⟨hp.write _ _, IOwn.ib ⟨_, rfl, (hm.other _ hne).other _ hne⟩ hsz9.len, (B34.setCell (p := ⟨vy, 0, none⟩) HPV _).setCell (p := ⟨vy, 1, none⟩) HPV _⟩
        have HVX : Hid (wx.heap.size ≤ vy) := HPV
        obtain ⟨y0, y1⟩ := hp.cells
        have f0 := hp.thaw 0
        have f1 := hp.thaw 1
        clear hsz9 hne hm hp HPW
        generalize decide (r * und q < 0) = bbn at *
        refine late_st 7 rfl (fun K hK => ?_)
        go_simp
        refine hK.out _ _ ⟨kpt 5, kpt 3, trivial⟩ ?_
        clear hK K
        (try simp only [Act.put, putA, putB, putC])
        refine late_done (by kernel_rfl) ?_ _
        clear hHeld y0 y1 f0 f1
        go_wp2_with fail
        go_meet
        exact ⟨_, _, _, _, _, rfl, HIB.out.1, HIB.out.2.1, HIB.out.2.2, HVX.out⟩
    case rest =>
      obtain ⟨wy, hwwy⟩ : ∃ W, W = wc := ⟨_, rfl⟩
      rw [← hwwy] at hcut ⊢
      clear hwwy
      obtain ⟨vy, ny, yo, yl, yc, rfl, qy, iy, b, hvy⟩ := hcut
      replace ia := ia.below b
      replace ib := ib.below b
      replace da := da.below b
      replace db := db.below b
      replace ix := ix.below b
      replace qa := qa.below b
      replace qb := qb.below b
      replace qR := qR.below b
      replace qx := qx.below b
      replace hb := bstep hb b
      replace hsz := Nat.lt_of_lt_of_le hsz b.size
      clear b
      obtain ⟨cqa0, cqa1, cqa2⟩ := qa.cells
      obtain ⟨cqb0, cqb1, cqb2⟩ := qb.cells
      obtain ⟨cqR0, cqR1, cqR2⟩ := qR.cells
      obtain ⟨cqx0, cqx1⟩ := qx.cells
      obtain ⟨cqy0, cqy1⟩ := qy.cells
      go_wp2_with fail
      clear cqa0 cqa1 cqa2 cqb0 cqb1 cqb2 cqR0 cqR1 cqR2 cqx0 cqx1 cqy0 cqy1
      refine region_late [(0, fun w' => w'.cell? ⟨vx, 0, none⟩ = some (.bool nx) ∧ w'.cell? ⟨vx, 1, none⟩ = some (.slice xo xl xc)), (1, fun w' => w'.cell? ⟨vy, 0, none⟩ = some (.bool ny) ∧ w'.cell? ⟨vy, 1, none⟩ = some (.slice yo yl yc)), (3, fun w' => w'.cell? ⟨g, 0, none⟩ = some (.bool na) ∧ w'.cell? ⟨g, 1, none⟩ = some (.slice ao al ac) ∧ w'.cell? ⟨g, 2, none⟩ = some (.slice aO aL aC)), (5, fun w' => w'.cell? ⟨g + 1, 0, none⟩ = some (.bool nb) ∧ w'.cell? ⟨g + 1, 1, none⟩ = some (.slice bo bl bc) ∧ w'.cell? ⟨g + 1, 2, none⟩ = some (.slice bO bL bC))] (by kernel_rfl) ?_
      have hHeld : AllL wy.drew [(0, fun w' => w'.cell? ⟨vx, 0, none⟩ = some (.bool nx) ∧ w'.cell? ⟨vx, 1, none⟩ = some (.slice xo xl xc)), (1, fun w' => w'.cell? ⟨vy, 0, none⟩ = some (.bool ny) ∧ w'.cell? ⟨vy, 1, none⟩ = some (.slice yo yl yc)), (3, fun w' => w'.cell? ⟨g, 0, none⟩ = some (.bool na) ∧ w'.cell? ⟨g, 1, none⟩ = some (.slice ao al ac) ∧ w'.cell? ⟨g, 2, none⟩ = some (.slice aO aL aC)), (5, fun w' => w'.cell? ⟨g + 1, 0, none⟩ = some (.bool nb) ∧ w'.cell? ⟨g + 1, 1, none⟩ = some (.slice bo bl bc) ∧ w'.cell? ⟨g + 1, 2, none⟩ = some (.slice bO bL bC))] := ⟨(show ICell wy.drew (vx) nx (.slice xo xl xc) from qx).cells, (show ICell wy.drew (vy) ny (.slice yo yl yc) from qy).cells, (show QCell wy.drew (g) na (.slice ao al ac) (.slice aO aL aC) from qa).cells, (show QCell wy.drew (g + 1) nb (.slice bo bl bc) (.slice bO bL bC) from qb).cells, trivial⟩
      refine late_tk 0 (v := .agg #[.bool nx, .slice xo xl xc]) rfl (List.Mem.head _) (Or.inl ⟨by rfl, ?_⟩) hHeld ?_
      · (intro u hu; (try dsimp only at hu); go_split_ands; go_simp)
      (try simp only [Act.put, putA, putB, putC])
      refine late_tk 1 (v := .agg #[.bool ny, .slice yo yl yc]) rfl (List.Mem.tail _ (List.Mem.head _)) (Or.inl ⟨by rfl, ?_⟩) hHeld ?_
      · (intro u hu; (try dsimp only at hu); go_split_ands; go_simp)
      (try simp only [Act.put, putA, putB, putC])
      refine late_tk 3 (v := .agg #[.bool na, .slice ao al ac, .slice aO aL aC]) rfl (List.Mem.tail _ (List.Mem.tail _ (List.Mem.head _))) (Or.inl ⟨by rfl, ?_⟩) hHeld ?_
      · (intro u hu; (try dsimp only at hu); go_split_ands; go_simp)
      (try simp only [Act.put, putA, putB, putC])
      refine late_tk 5 (v := .agg #[.bool nb, .slice bo bl bc, .slice bO bL bC]) rfl (List.Mem.tail _ (List.Mem.tail _ (List.Mem.tail _ (List.Mem.head _)))) (Or.inl ⟨by rfl, ?_⟩) hHeld ?_
      · (intro u hu; (try dsimp only at hu); go_split_ands; go_simp)
      (try simp only [Act.put, putA, putB, putC])
      refine late_st 2 rfl (fun K hK => ?_)
      go_simp
      refine (raddB (ix.below (below_drew' _)) (iy.below (below_drew' _)) (by omega)).mono ?_
      rintro e w36 ⟨nm21, m21o, m21l, m21c, rfl, im21, b36⟩
      have B36 : Below wy.heap.size wy w36 := bstep (below_drew' _) b36
      clear hHeld
      have hHeld : AllL w36 [(0, fun w' => w'.cell? ⟨vx, 0, none⟩ = some (.bool nx) ∧ w'.cell? ⟨vx, 1, none⟩ = some (.slice xo xl xc)), (1, fun w' => w'.cell? ⟨vy, 0, none⟩ = some (.bool ny) ∧ w'.cell? ⟨vy, 1, none⟩ = some (.slice yo yl yc)), (3, fun w' => w'.cell? ⟨g, 0, none⟩ = some (.bool na) ∧ w'.cell? ⟨g, 1, none⟩ = some (.slice ao al ac) ∧ w'.cell? ⟨g, 2, none⟩ = some (.slice aO aL aC)), (5, fun w' => w'.cell? ⟨g + 1, 0, none⟩ = some (.bool nb) ∧ w'.cell? ⟨g + 1, 1, none⟩ = some (.slice bo bl bc) ∧ w'.cell? ⟨g + 1, 2, none⟩ = some (.slice bO bL bC))] := ⟨(qx.below B36).cells, (qy.below B36).cells, (qa.below B36).cells, (qb.below B36).cells, trivial⟩
      go_wp2_with fail
      refine hK.out _ _ (AllL.kept hHeld) ?_
      clear hK K
      (try simp only [Act.put, putA, putB, putC])
      refine late_st 4 rfl (fun K hK => ?_)
      go_simp
      refine (den3 ((da.below (below_drew' _)).below b36) ⟨h1L, by omega⟩).mono ?_
      rintro e w37 ⟨m23o, m23l, m23c, rfl, im23, b37⟩
      have B37 : Below wy.heap.size wy w37 := bstep B36 b37
      clear hHeld
      have hHeld : AllL w37 [(0, fun w' => w'.cell? ⟨vx, 0, none⟩ = some (.bool nx) ∧ w'.cell? ⟨vx, 1, none⟩ = some (.slice xo xl xc)), (1, fun w' => w'.cell? ⟨vy, 0, none⟩ = some (.bool ny) ∧ w'.cell? ⟨vy, 1, none⟩ = some (.slice yo yl yc)), (3, fun w' => w'.cell? ⟨g, 0, none⟩ = some (.bool na) ∧ w'.cell? ⟨g, 1, none⟩ = some (.slice ao al ac) ∧ w'.cell? ⟨g, 2, none⟩ = some (.slice aO aL aC)), (5, fun w' => w'.cell? ⟨g + 1, 0, none⟩ = some (.bool nb) ∧ w'.cell? ⟨g + 1, 1, none⟩ = some (.slice bo bl bc) ∧ w'.cell? ⟨g + 1, 2, none⟩ = some (.slice bO bL bC))] := ⟨(qx.below B37).cells, (qy.below B37).cells, (qa.below B37).cells, (qb.below B37).cells, trivial⟩
      go_wp2_with fail
      refine hK.out _ _ (AllL.kept hHeld) ?_
      clear hK K
      (try simp only [Act.put, putA, putB, putC])
      refine late_st 6 rfl (fun K hK => ?_)
      go_simp
      refine (den3 (((db.below (below_drew' _)).below b36).below b37) ⟨h1M, by omega⟩).mono ?_
      rintro e w38 ⟨m25o, m25l, m25c, rfl, im25, b38⟩
      have B38 : Below wy.heap.size wy w38 := bstep B37 b38
      clear hHeld
      have hHeld : AllL w38 [(0, fun w' => w'.cell? ⟨vx, 0, none⟩ = some (.bool nx) ∧ w'.cell? ⟨vx, 1, none⟩ = some (.slice xo xl xc)), (1, fun w' => w'.cell? ⟨vy, 0, none⟩ = some (.bool ny) ∧ w'.cell? ⟨vy, 1, none⟩ = some (.slice yo yl yc)), (3, fun w' => w'.cell? ⟨g, 0, none⟩ = some (.bool na) ∧ w'.cell? ⟨g, 1, none⟩ = some (.slice ao al ac) ∧ w'.cell? ⟨g, 2, none⟩ = some (.slice aO aL aC)), (5, fun w' => w'.cell? ⟨g + 1, 0, none⟩ = some (.bool nb) ∧ w'.cell? ⟨g + 1, 1, none⟩ = some (.slice bo bl bc) ∧ w'.cell? ⟨g + 1, 2, none⟩ = some (.slice bO bL bC))] := ⟨(qx.below B38).cells, (qy.below B38).cells, (qa.below B38).cells, (qb.below B38).cells, trivial⟩
      go_wp2_with fail
      refine hK.out _ _ (AllL.kept hHeld) ?_
      clear hK K
      (try simp only [Act.put, putA, putB, putC])
      refine late_st 7 rfl (fun K hK => ?_)
      go_simp
      refine (nmulB (im23.below b38) im25 (by omega)).mono ?_
      rintro e w39 ⟨m26o, m26l, m26c, rfl, im26, b39⟩
      have B39 : Below wy.heap.size wy w39 := bstep B38 b39
      clear hHeld
      have hHeld : AllL w39 [(0, fun w' => w'.cell? ⟨vx, 0, none⟩ = some (.bool nx) ∧ w'.cell? ⟨vx, 1, none⟩ = some (.slice xo xl xc)), (1, fun w' => w'.cell? ⟨vy, 0, none⟩ = some (.bool ny) ∧ w'.cell? ⟨vy, 1, none⟩ = some (.slice yo yl yc)), (3, fun w' => w'.cell? ⟨g, 0, none⟩ = some (.bool na) ∧ w'.cell? ⟨g, 1, none⟩ = some (.slice ao al ac) ∧ w'.cell? ⟨g, 2, none⟩ = some (.slice aO aL aC)), (5, fun w' => w'.cell? ⟨g + 1, 0, none⟩ = some (.bool nb) ∧ w'.cell? ⟨g + 1, 1, none⟩ = some (.slice bo bl bc) ∧ w'.cell? ⟨g + 1, 2, none⟩ = some (.slice bO bL bC))] := ⟨(qx.below B39).cells, (qy.below B39).cells, (qa.below B39).cells, (qb.below B39).cells, trivial⟩
      go_wp2_with fail
      refine hK.out _ _ (AllL.kept hHeld) ?_
      clear hK K
      (try simp only [Act.put, putA, putB, putC])
      refine late_st 8 rfl (fun K hK => ?_)
      go_simp
      have hq := lowB (((im21.below b37).below b38).below b39) im26 (by omega) (by omega) (und_mul_ne _ _)
      rw [HZ.out] at hq
      refine hq.mono ?_
      rintro e w40 ⟨v, rfl, hv, b40⟩
      clear hq
      obtain ⟨m, d, rfl, hm, hd, hap⟩ := hv
      obtain ⟨mo, ml, mc, rfl⟩ := hm.sl
      obtain ⟨mO, mL, mC, rfl⟩ := hd.sl
      have B40 : Below wy.heap.size wy w40 := bstep B39 b40
      clear hHeld
      have hHeld : AllL w40 [(0, fun w' => w'.cell? ⟨vx, 0, none⟩ = some (.bool nx) ∧ w'.cell? ⟨vx, 1, none⟩ = some (.slice xo xl xc)), (1, fun w' => w'.cell? ⟨vy, 0, none⟩ = some (.bool ny) ∧ w'.cell? ⟨vy, 1, none⟩ = some (.slice yo yl yc)), (3, fun w' => w'.cell? ⟨g, 0, none⟩ = some (.bool na) ∧ w'.cell? ⟨g, 1, none⟩ = some (.slice ao al ac) ∧ w'.cell? ⟨g, 2, none⟩ = some (.slice aO aL aC)), (5, fun w' => w'.cell? ⟨g + 1, 0, none⟩ = some (.bool nb) ∧ w'.cell? ⟨g + 1, 1, none⟩ = some (.slice bo bl bc) ∧ w'.cell? ⟨g + 1, 2, none⟩ = some (.slice bO bL bC))] := ⟨(qx.below B40).cells, (qy.below B40).cells, (qa.below B40).cells, (qb.below B40).cells, trivial⟩
      go_wp2_with fail
      refine hK.out _ _ (AllL.kept hHeld) ?_
      clear hK K
      (try simp only [Act.put, putA, putB, putC])
      have qq := qR.below B40
      have HE : Hid (REnd w Z (.returned (.agg #[.bool (decide (Z.num < 0)), .slice mo ml mc, .slice mO mL mC])) (((w40.setCell ⟨g + 1 + 1, 0, none⟩ (.bool (decide (Z.num < 0)))).setCell ⟨g + 1 + 1, 1, none⟩ (.slice mo ml mc)).setCell ⟨g + 1 + 1, 2, none⟩ (.slice mO mL mC))) := rat_done rfl (by rw [HG.out]; omega) hm hd hap (Nat.lt_of_lt_of_le hsz B39.size) (bstep hb B40)
      have HW : Hid (QCell (((w40.setCell ⟨g + 1 + 1, 0, none⟩ (.bool (decide (Z.num < 0)))).setCell ⟨g + 1 + 1, 1, none⟩ (.slice mo ml mc)).setCell ⟨g + 1 + 1, 2, none⟩ (.slice mO mL mC)) (g + 1 + 1) (decide (Z.num < 0)) (.slice mo ml mc) (.slice mO mL mC)) := qq.write _ _ _
      obtain ⟨y0, y1, y2⟩ := qq.cells
      have f0 := qq.thaw 0
      have f1 := qq.thaw 1
      have f2 := qq.thaw 2
      generalize decide (Z.num < 0) = bb at *
      clear qq hap
      clear im21 im23 im25 im26
      refine late_st 9 rfl (fun K hK => ?_)
      go_simp
      refine hK.out _ _ ⟨kpt 2, kpt 2, kpt 4, kpt 6, trivial⟩ ?_
      clear hK K
      (try simp only [Act.put, putA, putB, putC])
      refine late_done (by kernel_rfl) ?_ _
      clear hHeld
      clear hb hsz hm hd qa qb qR qx qy ia ib da db ix iy b36 b37 b38 b39 b40 B36 B37 B38 B39 B40 hvx hvy
      go_wp2_with fail
      (try simp only [Exit.inBlock, Exit.then])
      exact bodyPost_ret (results_cell_row rfl _ _ (g + 1 + 1) 27 _ (0, 0) _ rfl HW.out Tryz.underlying27 rfl (by kernel_rfl)) rfl HE.out
end Go.Proofs.YtfnafgjnimfmjaaGreatDoor
