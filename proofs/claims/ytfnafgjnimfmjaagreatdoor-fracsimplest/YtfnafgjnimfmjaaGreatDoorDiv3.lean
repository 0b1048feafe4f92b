/-
  Proved here: what Div of the document's layer 3 answers.
-/
import Derived.Test.YtfnafgjnimfmjaaGreatDoorSub3All
namespace Go.Proofs.YtfnafgjnimfmjaaGreatDoor
open Go.RowKit
attribute [local go_sem ↓] Go.wp_at_zero Go.wp_at_succ

theorem own_one_new (w : World) : Own w.heap.size 37 (w.alloc (.cells #[.int .u32 1] 37)) (.slice (some ⟨w.heap.size, 0, none⟩) 1 1) [1] :=
  ⟨fun x hx => by rw [List.mem_singleton.1 hx]; decide, rfl, .inr ⟨w.heap.size, 1, #[.int .u32 1], rfl, Nat.le_refl _, heap_alloc_new w _, Nat.le_refl _, by decide, rfl, rfl⟩⟩
set_option maxRecDepth 100000 in
set_option maxHeartbeats 3200000 in
theorem one3E (w : World) : Calls Tryz.prog 64 #[] w fun e w' => Made' w.heap.size w [1] e w' := by
  have HN : Hid (Own w.heap.size 37 (w.alloc (.cells #[.int .u32 1] 37)) (.slice (some ⟨w.heap.size, 0, none⟩) 1 1) [1]) := own_one_new w
  go_enter Tryz.func64, Tryz.ntmps64
  go_wp2
  go_ret
  exact ⟨_, rfl, HN.out, belowA _ _⟩
set_option maxRecDepth 100000 in
set_option maxHeartbeats 6400000 in
theorem den3E_no (na : Bool) (ao aO : Option Addr) (al ac aL aC : Nat) (ya : List Nat) (q : Nat) (w : World) (da : Num w (.slice aO aL aC) ya) (la : ya.length ≤ 1000) (he : val ya = q) (hz : q = 0) : Calls Tryz.prog 61 #[.agg #[.bool na, .slice ao al ac, .slice aO aL aC]] w fun e w' => Made' w.heap.size w (lim (und q).natAbs) e w' := by
  obtain ⟨W1, hW1⟩ : ∃ W1, W1 = w.alloc (.cells #[.bool na, .slice ao al ac, .slice aO aL aC] 27) := ⟨_, rfl⟩
  have qa : QCell W1 (w.heap.size) na (.slice ao al ac) (.slice aO aL aC) := by rw [hW1]; exact (qcell_new _ (by simp))
  have hb : Below w.heap.size w W1 := by rw [hW1]; exact belowA w _
  have hsz : w.heap.size < W1.heap.size := by rw [hW1]; simp
  replace da := da.below (Nat.le_refl _) hb
  have HW1 : Hid (W1 = w.alloc (.cells #[.bool na, .slice ao al ac, .slice aO aL aC] 27)) := hW1
  clear hW1
  go_enter Tryz.func61, Tryz.ntmps61
  go_wp2_with fail
  rw [← HW1.out]
  clear HW1
  obtain ⟨g, hg⟩ : ∃ g, g = w.heap.size := ⟨_, rfl⟩
  rw [← hg] at qa hsz ⊢
  have HG : Hid (g = w.heap.size) := hg
  clear hg
  obtain ⟨cqa0, cqa1, cqa2⟩ := qa.cells
  go_wp2_with fail
  clear cqa0 cqa1 cqa2
  have hq := norm_ref _ _ _ da (by omega)
  refine (hq).mono ?_
  rintro e w2 ⟨u, rfl, hu, b⟩
  clear hq
  obtain ⟨uo, ul, uc, rfl⟩ := hu.sl
  have hul := (num_len hu.num).1
  replace da := da.below (Nat.le_refl _) b
  replace qa := qa.below b
  replace hb := bstep hb b
  replace hsz := Nat.lt_of_lt_of_le hsz b.size
  clear b
  have hul0 : ul = 0 := by rw [← hul, he, hz]; rfl
  clear hul
  subst hul0
  obtain ⟨cqa0, cqa1, cqa2⟩ := qa.cells
  go_wp2_with fail
  clear cqa0 cqa1 cqa2
  refine (one3E _).mono ?_
  rintro e w3 ⟨y, rfl, hn, b⟩
  obtain ⟨yo, yl, yc, rfl⟩ := hn.sl
  have hsy := hb.size
  replace da := da.below (Nat.le_refl _) b
  replace hu := hu.below b
  replace qa := qa.below b
  replace hb := bstep hb b
  replace hsz := Nat.lt_of_lt_of_le hsz b.size
  clear b
  have HE : Hid (Made' w.heap.size w (lim (und q).natAbs) (.returned (.slice yo yl yc)) w3) := ⟨_, rfl, by rw [show lim (und q).natAbs = [1] by rw [hz]; decide]; exact hn.mono hsy, hb⟩
  clear hb hsz hn hsy qa da hu
  go_wp2
  go_ret
  exact HE.out
set_option maxRecDepth 100000 in
set_option maxHeartbeats 6400000 in
theorem den3E_yes (na : Bool) (ao aO : Option Addr) (al ac aL aC : Nat) (ya : List Nat) (q : Nat) (w : World) (da : Num w (.slice aO aL aC) ya) (la : ya.length ≤ 1000) (he : val ya = q) (hz : q ≠ 0) : Calls Tryz.prog 61 #[.agg #[.bool na, .slice ao al ac, .slice aO aL aC]] w fun e w' => Made' w.heap.size w (lim (und q).natAbs) e w' := by
  obtain ⟨W1, hW1⟩ : ∃ W1, W1 = w.alloc (.cells #[.bool na, .slice ao al ac, .slice aO aL aC] 27) := ⟨_, rfl⟩
  have qa : QCell W1 (w.heap.size) na (.slice ao al ac) (.slice aO aL aC) := by rw [hW1]; exact (qcell_new _ (by simp))
  have hb : Below w.heap.size w W1 := by rw [hW1]; exact belowA w _
  have hsz : w.heap.size < W1.heap.size := by rw [hW1]; simp
  replace da := da.below (Nat.le_refl _) hb
  have HW1 : Hid (W1 = w.alloc (.cells #[.bool na, .slice ao al ac, .slice aO aL aC] 27)) := hW1
  clear hW1
  go_enter Tryz.func61, Tryz.ntmps61
  go_wp2_with fail
  rw [← HW1.out]
  clear HW1
  obtain ⟨g, hg⟩ : ∃ g, g = w.heap.size := ⟨_, rfl⟩
  rw [← hg] at qa hsz ⊢
  have HG : Hid (g = w.heap.size) := hg
  clear hg
  obtain ⟨cqa0, cqa1, cqa2⟩ := qa.cells
  go_wp2_with fail
  clear cqa0 cqa1 cqa2
  have hq := norm_ref _ _ _ da (by omega)
  have hszz := hsz
  refine (hq).mono ?_
  rintro e w2 ⟨u, rfl, hu, b⟩
  clear hq
  obtain ⟨uo, ul, uc, rfl⟩ := hu.sl
  have hul := (num_len hu.num).1
  replace da := da.below (Nat.le_refl _) b
  replace qa := qa.below b
  replace hb := bstep hb b
  replace hsz := Nat.lt_of_lt_of_le hsz b.size
  clear b
  have hul0 : ((ul : Int) == 0) = false := nz_int2 (by rw [← hul, he]; exact lim_len_pos3 hz)
  clear hul
  obtain ⟨cqa0, cqa1, cqa2⟩ := qa.cells
  have HE : Hid (Made' w.heap.size w (lim (und q).natAbs) (.returned (.slice uo ul uc)) w2) := ⟨_, rfl, by rw [show (und q).natAbs = val ya by rw [he]; unfold und; rw [if_neg hz]; exact Int.natAbs_natCast q]; exact hu.mono (by have := HG.out; omega), hb⟩
  clear hb hsz hszz qa da hu
  go_wp2
  go_ret
  exact HE.out
theorem den3E {na : Bool} {ao aO : Option Addr} {al ac aL aC : Nat} {q L : Nat} {w : World} (h : NB w (.slice aO aL aC) (q : Int) L) (hL : L ≤ 1000) : Calls Tryz.prog 61 #[.agg #[.bool na, .slice ao al ac, .slice aO aL aC]] w fun e w' => Made' w.heap.size w (lim (und q).natAbs) e w' := by
  obtain ⟨o, l, c, xs, e, h1, h2, h3⟩ := h
  cases e
  have h3 : val xs = q := by omega
  by_cases hz : q = 0
  · exact den3E_no na ao _ al ac _ _ xs q w h1 (by omega) h3 hz
  · exact den3E_yes na ao _ al ac _ _ xs q w h1 (by omega) h3 hz
theorem over_rq {nb : Bool} {R k : Nat} (hR : R ≠ 0) : rq (zv nb (und k).natAbs) R = (rq (zv nb R) k)⁻¹ := by
  unfold rq
  have hu : und R = (R : Int) := by unfold und; rw [if_neg hR]
  have hk := und_pos k
  have e : ((und k).natAbs : Int) = und k := by omega
  rw [hu, Rat.inv_divInt]
  have hz : zv nb R ≠ 0 := by cases nb <;> simp [zv] <;> omega
  refine (Rat.divInt_eq_divInt_iff (by omega) hz).2 ?_
  cases nb
  · show ((und k).natAbs : Int) * (R : Int) = und k * (R : Int)
    rw [e]
  · show -((und k).natAbs : Int) * -(R : Int) = und k * (R : Int)
    rw [e, Int.neg_mul_neg]
set_option maxRecDepth 100000 in
set_option maxHeartbeats 6400000 in
theorem div3_yes {p r : Int} {q k L M : Nat} (na : Bool) (ao aO : Option Addr) (al ac aL aC : Nat) (nb : Bool) (bo bO : Option Addr) (bl bc bL bC : Nat) {w : World} (ia : IB w (.agg #[.bool na, .slice ao al ac]) p L) (da : NB w (.slice aO aL aC) (q : Int) L) (h1L : 1 ≤ L) (ib : IB w (.agg #[.bool nb, .slice bo bl bc]) r M) (db : NB w (.slice bO bL bC) (k : Int) M) (h1M : 1 ≤ M) (hL : L + M ≤ 140) (hy : r ≠ 0) : Calls Tryz.prog 28 #[.agg #[.bool na, .slice ao al ac, .slice aO aL aC], .agg #[.bool nb, .slice bo bl bc, .slice bO bL bC]] w fun e w' => RTEnd w (rq p q / rq r k) e w' := by
  obtain ⟨c, hc⟩ : ∃ c, c = sgnQ (rq r k) := ⟨_, rfl⟩
  have HC : Hid (sgnQ (rq r k) = c) := hc.symm
  have ib0 := ib
  obtain ⟨n9, o9, l9, c9, xb, e9, ub, lb, zb⟩ := ib
  cases e9
  obtain ⟨R0, hR0⟩ : ∃ R, R = val xb := ⟨_, rfl⟩
  rw [← hR0] at zb
  have hR : R0 ≠ 0 := fun e => hy (by rw [← zb, e]; cases nb <;> rfl)
  have hc0 : (c == 0) = false := by rw [hc, ← sgn_rq, cmpZ_eq]; exact decide_eq_false hy
  obtain ⟨Z, hZ⟩ : ∃ Z, Z = rq p q / rq r k := ⟨_, rfl⟩
  rw [← hZ]
  have HZ : Hid (rq p q * rq (zv nb (und k).natAbs) R0 = Z) := by show _ = _; rw [hZ, over_rq hR, zb, Rat.div_def]
  have HRB : Hid (R0 = val xb ∧ xb.length ≤ M) := ⟨hR0, lb⟩
  have hlk := (und_sz db.sz h1M).len
  clear hZ hR0 hR hc lb zb hy
  obtain ⟨W1, hW1⟩ : ∃ W1, W1 = ((w.alloc (.cells #[.bool na, .slice ao al ac, .slice aO aL aC] 27)).alloc (.cells #[.bool nb, .slice bo bl bc, .slice bO bL bC] 27)).alloc (.cells #[.bool false, .slice none 0 0, .slice none 0 0] 27) := ⟨_, rfl⟩
  have qa : QCell W1 (w.heap.size) na (.slice ao al ac) (.slice aO aL aC) := by rw [hW1]; exact (qcell_step (qcell_step (qcell_new _ (by simp))))
  have qb : QCell W1 (w.heap.size + 1) nb (.slice bo bl bc) (.slice bO bL bC) := by rw [hW1]; exact (qcell_step (qcell_new _ (by simp)))
  have qR : QCell W1 (w.heap.size + 1 + 1) false (.slice none 0 0) (.slice none 0 0) := by rw [hW1]; exact (qcell_new _ (by simp))
  have hb : Below w.heap.size w W1 := by rw [hW1]; exact bstep (bstep (belowA w _) (belowA _ _)) (belowA _ _)
  have hsz : w.heap.size + 1 + 1 < W1.heap.size := by rw [hW1]; simp
  replace ib0 := ib0.below hb
  replace db := db.below hb
  replace da := da.below hb
  replace ia := ia.below hb
  replace ub := ub.below (Nat.le_refl _) hb
  have HW1 : Hid (W1 = ((w.alloc (.cells #[.bool na, .slice ao al ac, .slice aO aL aC] 27)).alloc (.cells #[.bool nb, .slice bo bl bc, .slice bO bL bC] 27)).alloc (.cells #[.bool false, .slice none 0 0, .slice none 0 0] 27)) := hW1
  clear hW1
  go_enter Tryz.func28, Tryz.ntmps28
  go_wp2_with fail
  rw [← HW1.out]
  clear HW1
  obtain ⟨g, hg⟩ : ∃ g, g = w.heap.size := ⟨_, rfl⟩
  rw [← hg] at qa qb qR hsz ⊢
  have HG : Hid (g = w.heap.size) := hg
  clear hg
  obtain ⟨cqa0, cqa1, cqa2⟩ := qa.cells
  obtain ⟨cqb0, cqb1, cqb2⟩ := qb.cells
  obtain ⟨cqR0, cqR1, cqR2⟩ := qR.cells
  go_wp2_with fail
  clear cqa0 cqa1 cqa2 cqb0 cqb1 cqb2 cqR0 cqR1 cqR2
  have hs := sign3 (q := k) nb bo bO bl bc bL bC ib0 (by omega)
  rw [HC.out] at hs
  refine (hs).mono ?_
  rintro e w2 ⟨rfl, b⟩
  clear hs
  replace ia := ia.below b
  replace ub := ub.below (Nat.le_refl _) b
  replace da := da.below b
  replace db := db.below b
  replace ib0 := ib0.below b
  replace qa := qa.below b
  replace qb := qb.below b
  replace qR := qR.below b
  replace hb := bstep hb b
  replace hsz := Nat.lt_of_lt_of_le hsz b.size
  clear b
  obtain ⟨cqa0, cqa1, cqa2⟩ := qa.cells
  obtain ⟨cqb0, cqb1, cqb2⟩ := qb.cells
  obtain ⟨cqR0, cqR1, cqR2⟩ := qR.cells
  go_wp2_with fail
  clear cqa0 cqa1 cqa2 cqb0 cqb1 cqb2 cqR0 cqR1 cqR2
  go_cut [6] (fun t wx => ∃ vx xo xl xc, t = .pointer (some ⟨vx, 0, none⟩) ∧ QCell wx vx nb (.slice xo xl xc) (.slice bo bl bc) ∧ Num wx (.slice xo xl xc) (lim (und k).natAbs) ∧ Below w2.heap.size w2 wx)
  case first =>
    refine region_late [(2, fun w' => w'.cell? ⟨g + 1, 0, none⟩ = some (.bool nb)), (3, fun w' => w'.cell? ⟨g + 1, 0, none⟩ = some (.bool nb) ∧ w'.cell? ⟨g + 1, 1, none⟩ = some (.slice bo bl bc) ∧ w'.cell? ⟨g + 1, 2, none⟩ = some (.slice bO bL bC)), (8, fun w' => w'.cell? ⟨g + 1, 1, none⟩ = some (.slice bo bl bc))] (by kernel_rfl) ?_
    have hHeld : AllL w2.drew [(2, fun w' => w'.cell? ⟨g + 1, 0, none⟩ = some (.bool nb)), (3, fun w' => w'.cell? ⟨g + 1, 0, none⟩ = some (.bool nb) ∧ w'.cell? ⟨g + 1, 1, none⟩ = some (.slice bo bl bc) ∧ w'.cell? ⟨g + 1, 2, none⟩ = some (.slice bO bL bC)), (8, fun w' => w'.cell? ⟨g + 1, 1, none⟩ = some (.slice bo bl bc))] := ⟨(show QCell w2.drew (g + 1) nb (.slice bo bl bc) (.slice bO bL bC) from qb).cells.1, (show QCell w2.drew (g + 1) nb (.slice bo bl bc) (.slice bO bL bC) from qb).cells, (show QCell w2.drew (g + 1) nb (.slice bo bl bc) (.slice bO bL bC) from qb).cells.2.1, trivial⟩
    refine late_fr 0 (v := .pointer (some ⟨g + 1, 0, none⟩)) rfl (Or.inl ⟨by rfl, ?_⟩) hHeld ?_
    · (intro u _; go_simp)
    (try simp only [Act.put, putA, putB, putC])
    refine late_fr 1 (v := .pointer (some ⟨g + 1, 0, none⟩)) rfl (Or.inl ⟨by rfl, ?_⟩) hHeld ?_
    · (intro u _; go_simp)
    (try simp only [Act.put, putA, putB, putC])
    refine late_tk 2 (v := .bool nb) rfl (List.Mem.head _) (Or.inl ⟨by rfl, ?_⟩) hHeld ?_
    · (intro u hu; (try dsimp only at hu); go_split_ands; go_simp)
    (try simp only [Act.put, putA, putB, putC])
    refine late_tk 3 (v := .agg #[.bool nb, .slice bo bl bc, .slice bO bL bC]) rfl (List.Mem.tail _ (List.Mem.head _)) (Or.inl ⟨by rfl, ?_⟩) hHeld ?_
    · (intro u hu; (try dsimp only at hu); go_split_ands; go_simp)
    (try simp only [Act.put, putA, putB, putC])
    refine late_fr 6 (v := .pointer (some ⟨g + 1, 0, none⟩)) rfl (Or.inl ⟨by rfl, ?_⟩) hHeld ?_
    · (intro u _; go_simp)
    (try simp only [Act.put, putA, putB, putC])
    refine late_fr 7 (v := .pointer (some ⟨g + 1, 1, none⟩)) rfl (Or.inl ⟨by rfl, ?_⟩) hHeld ?_
    · (intro u _; go_simp)
    (try simp only [Act.put, putA, putB, putC])
    refine late_tk 8 (v := .slice bo bl bc) rfl (List.Mem.tail _ (List.Mem.tail _ (List.Mem.head _))) (Or.inl ⟨by rfl, ?_⟩) hHeld ?_
    · (intro u hu; (try dsimp only at hu); go_split_ands; go_simp)
    (try simp only [Act.put, putA, putB, putC])
    refine late_two 4 10 (by kernel_rfl) rfl rfl (fun K hK => ?_) (fun K hK => ?_)
    · go_simp
      have hq := den3E (na := nb) (ao := bo) (al := bl) (ac := bc) (db.below (below_drew' _)) (by omega)
      refine hq.mono ?_
      rintro e w3 ⟨m, rfl, hm, b3⟩
      clear hq
      obtain ⟨mo, ml, mc, rfl⟩ := hm.sl
      have B3 : Below w2.heap.size w2 w3 := bstep (below_drew' _) b3
      clear hHeld
      have hHeld : AllL w3 [(2, fun w' => w'.cell? ⟨g + 1, 0, none⟩ = some (.bool nb)), (3, fun w' => w'.cell? ⟨g + 1, 0, none⟩ = some (.bool nb) ∧ w'.cell? ⟨g + 1, 1, none⟩ = some (.slice bo bl bc) ∧ w'.cell? ⟨g + 1, 2, none⟩ = some (.slice bO bL bC)), (8, fun w' => w'.cell? ⟨g + 1, 1, none⟩ = some (.slice bo bl bc))] := ⟨(qb.below B3).cells.1, (qb.below B3).cells, (qb.below B3).cells.2.1, trivial⟩
      go_wp2_with fail
      refine hK.out _ _ (AllL.kept hHeld) ?_
      clear hK K
      (try simp only [Act.put, putA, putB, putC])
      refine late_two 5 10 (by kernel_rfl) rfl rfl (fun K hK => ?_) (fun K hK => ?_)
      · go_simp
        refine hK.out _ _ (AllL.kept hHeld) ?_
        clear hK K
        (try simp only [Act.put, putA, putB, putC])
        refine late_two 9 10 (by kernel_rfl) rfl rfl (fun K hK => ?_) (fun K hK => ?_)
        · go_simp
          refine hK.out _ _ (AllL.kept hHeld) ?_
          clear hK K
          (try simp only [Act.put, putA, putB, putC])
          refine late_st 10 rfl (fun K hK => ?_)
          go_simp
          obtain ⟨w4, hw4⟩ : ∃ u, u = w3.alloc (.cells #[.bool false, .slice none 0 0, .slice none 0 0] 27) := ⟨_, rfl⟩
          have hp : QCell w4 w3.heap.size false (.slice none 0 0) (.slice none 0 0) := by rw [hw4]; exact qcell_new _ rfl
          have b4 : Below w3.heap.size w3 w4 := by rw [hw4]; exact belowA _ _
          have B4 : Below w2.heap.size w2 w4 := bstep B3 b4
          rw [← hw4]
          obtain ⟨vx, hpv⟩ : ∃ v, v = w3.heap.size := ⟨_, rfl⟩
          have HPV : w2.heap.size ≤ vx := by rw [hpv]; exact B3.size
          have HPW : vx < w4.heap.size := by rw [hpv]; exact (Array.getElem?_eq_some_iff.1 hp).1
          have hne : (Value.slice mo ml mc).ownBlock = none ∨ (Value.slice mo ml mc).ownBlock ≠ some vx := (by rcases hu : (Value.slice mo ml mc).ownBlock with _ | k; exact .inl rfl; exact .inr fun e => by have h1 := (hm.block k hu).2; have h2 := Option.some.inj e; omega)
          replace hm := hm.below b4
          rw [← hpv] at hp ⊢
          clear hpv hw4
          clear hHeld
          have hHeld : AllL w4 [(2, fun w' => w'.cell? ⟨g + 1, 0, none⟩ = some (.bool nb)), (3, fun w' => w'.cell? ⟨g + 1, 0, none⟩ = some (.bool nb) ∧ w'.cell? ⟨g + 1, 1, none⟩ = some (.slice bo bl bc) ∧ w'.cell? ⟨g + 1, 2, none⟩ = some (.slice bO bL bC)), (8, fun w' => w'.cell? ⟨g + 1, 1, none⟩ = some (.slice bo bl bc))] := ⟨(qb.below B4).cells.1, (qb.below B4).cells, (qb.below B4).cells.2.1, trivial⟩
          refine hK.out _ _ (AllL.kept hHeld) ?_
          clear hK K
          (try simp only [Act.put, putA, putB, putC])
          have hm3 : Own _ 37 (((w4.setCell ⟨vx, 0, none⟩ (.bool nb)).setCell ⟨vx, 1, none⟩ (.slice mo ml mc)).setCell ⟨vx, 2, none⟩ (.slice bo bl bc)) (.slice mo ml mc) (lim (und k).natAbs) := ((hm.other _ hne).other _ hne).other _ hne
          have HIB : Hid (QCell (((w4.setCell ⟨vx, 0, none⟩ (.bool nb)).setCell ⟨vx, 1, none⟩ (.slice mo ml mc)).setCell ⟨vx, 2, none⟩ (.slice bo bl bc)) vx nb (.slice mo ml mc) (.slice bo bl bc) ∧ Num (((w4.setCell ⟨vx, 0, none⟩ (.bool nb)).setCell ⟨vx, 1, none⟩ (.slice mo ml mc)).setCell ⟨vx, 2, none⟩ (.slice bo bl bc)) (.slice mo ml mc) (lim (und k).natAbs) ∧ Below w2.heap.size w2 (((w4.setCell ⟨vx, 0, none⟩ (.bool nb)).setCell ⟨vx, 1, none⟩ (.slice mo ml mc)).setCell ⟨vx, 2, none⟩ (.slice bo bl bc))) := ⟨hp.write _ _ _, hm3.num, ((B4.setCell (p := ⟨vx, 0, none⟩) HPV _).setCell (p := ⟨vx, 1, none⟩) HPV _).setCell (p := ⟨vx, 2, none⟩) HPV _⟩
          obtain ⟨y0, y1, y2⟩ := hp.cells
          have f0 := hp.thaw 0
          have f1 := hp.thaw 1
          have f2 := hp.thaw 2
          clear hne hm hm3 hp HPW HPV
          refine late_st 11 rfl (fun K hK => ?_)
          go_simp
          refine hK.out _ _ ⟨kpt 5, kpt 4, kpt 9, trivial⟩ ?_
          clear hK K
          (try simp only [Act.put, putA, putB, putC])
          refine late_done (by kernel_rfl) ?_ _
          clear hHeld y0 y1 y2 f0 f1 f2
          go_wp2_with fail
          go_meet
          exact ⟨_, _, _, _, rfl, HIB.out.1, HIB.out.2.1, HIB.out.2.2⟩
        · go_simp
          obtain ⟨w5, hw5⟩ : ∃ u, u = w3.alloc (.cells #[.bool false, .slice none 0 0, .slice none 0 0] 27) := ⟨_, rfl⟩
          have hp : QCell w5 w3.heap.size false (.slice none 0 0) (.slice none 0 0) := by rw [hw5]; exact qcell_new _ rfl
          have b5 : Below w3.heap.size w3 w5 := by rw [hw5]; exact belowA _ _
          have B5 : Below w2.heap.size w2 w5 := bstep B3 b5
          rw [← hw5]
          obtain ⟨vx, hpv⟩ : ∃ v, v = w3.heap.size := ⟨_, rfl⟩
          have HPV : w2.heap.size ≤ vx := by rw [hpv]; exact B3.size
          have HPW : vx < w5.heap.size := by rw [hpv]; exact (Array.getElem?_eq_some_iff.1 hp).1
          have hne : (Value.slice mo ml mc).ownBlock = none ∨ (Value.slice mo ml mc).ownBlock ≠ some vx := (by rcases hu : (Value.slice mo ml mc).ownBlock with _ | k; exact .inl rfl; exact .inr fun e => by have h1 := (hm.block k hu).2; have h2 := Option.some.inj e; omega)
          replace hm := hm.below b5
          rw [← hpv] at hp ⊢
          clear hpv hw5
          clear hHeld
          have hHeld : AllL w5 [(2, fun w' => w'.cell? ⟨g + 1, 0, none⟩ = some (.bool nb)), (3, fun w' => w'.cell? ⟨g + 1, 0, none⟩ = some (.bool nb) ∧ w'.cell? ⟨g + 1, 1, none⟩ = some (.slice bo bl bc) ∧ w'.cell? ⟨g + 1, 2, none⟩ = some (.slice bO bL bC)), (8, fun w' => w'.cell? ⟨g + 1, 1, none⟩ = some (.slice bo bl bc))] := ⟨(qb.below B5).cells.1, (qb.below B5).cells, (qb.below B5).cells.2.1, trivial⟩
          refine hK.out _ _ (AllL.kept hHeld) ?_
          clear hK K
          (try simp only [Act.put, putA, putB, putC])
          refine late_st 9 rfl (fun K hK => ?_)
          go_simp
          refine hK.out _ _ (AllL.kept hHeld) ?_
          clear hK K
          (try simp only [Act.put, putA, putB, putC])
          have hm3 : Own _ 37 (((w5.setCell ⟨vx, 0, none⟩ (.bool nb)).setCell ⟨vx, 1, none⟩ (.slice mo ml mc)).setCell ⟨vx, 2, none⟩ (.slice bo bl bc)) (.slice mo ml mc) (lim (und k).natAbs) := ((hm.other _ hne).other _ hne).other _ hne
          have HIB : Hid (QCell (((w5.setCell ⟨vx, 0, none⟩ (.bool nb)).setCell ⟨vx, 1, none⟩ (.slice mo ml mc)).setCell ⟨vx, 2, none⟩ (.slice bo bl bc)) vx nb (.slice mo ml mc) (.slice bo bl bc) ∧ Num (((w5.setCell ⟨vx, 0, none⟩ (.bool nb)).setCell ⟨vx, 1, none⟩ (.slice mo ml mc)).setCell ⟨vx, 2, none⟩ (.slice bo bl bc)) (.slice mo ml mc) (lim (und k).natAbs) ∧ Below w2.heap.size w2 (((w5.setCell ⟨vx, 0, none⟩ (.bool nb)).setCell ⟨vx, 1, none⟩ (.slice mo ml mc)).setCell ⟨vx, 2, none⟩ (.slice bo bl bc))) := ⟨hp.write _ _ _, hm3.num, ((B5.setCell (p := ⟨vx, 0, none⟩) HPV _).setCell (p := ⟨vx, 1, none⟩) HPV _).setCell (p := ⟨vx, 2, none⟩) HPV _⟩
          obtain ⟨y0, y1, y2⟩ := hp.cells
          have f0 := hp.thaw 0
          have f1 := hp.thaw 1
          have f2 := hp.thaw 2
          clear hne hm hm3 hp HPW HPV
          refine late_st 11 rfl (fun K hK => ?_)
          go_simp
          refine hK.out _ _ ⟨kpt 5, kpt 4, kpt 9, trivial⟩ ?_
          clear hK K
          (try simp only [Act.put, putA, putB, putC])
          refine late_done (by kernel_rfl) ?_ _
          clear hHeld y0 y1 y2 f0 f1 f2
          go_wp2_with fail
          go_meet
          exact ⟨_, _, _, _, rfl, HIB.out.1, HIB.out.2.1, HIB.out.2.2⟩
      · go_simp
        obtain ⟨w6, hw6⟩ : ∃ u, u = w3.alloc (.cells #[.bool false, .slice none 0 0, .slice none 0 0] 27) := ⟨_, rfl⟩
        have hp : QCell w6 w3.heap.size false (.slice none 0 0) (.slice none 0 0) := by rw [hw6]; exact qcell_new _ rfl
        have b6 : Below w3.heap.size w3 w6 := by rw [hw6]; exact belowA _ _
        have B6 : Below w2.heap.size w2 w6 := bstep B3 b6
        rw [← hw6]
        obtain ⟨vx, hpv⟩ : ∃ v, v = w3.heap.size := ⟨_, rfl⟩
        have HPV : w2.heap.size ≤ vx := by rw [hpv]; exact B3.size
        have HPW : vx < w6.heap.size := by rw [hpv]; exact (Array.getElem?_eq_some_iff.1 hp).1
        have hne : (Value.slice mo ml mc).ownBlock = none ∨ (Value.slice mo ml mc).ownBlock ≠ some vx := (by rcases hu : (Value.slice mo ml mc).ownBlock with _ | k; exact .inl rfl; exact .inr fun e => by have h1 := (hm.block k hu).2; have h2 := Option.some.inj e; omega)
        replace hm := hm.below b6
        rw [← hpv] at hp ⊢
        clear hpv hw6
        clear hHeld
        have hHeld : AllL w6 [(2, fun w' => w'.cell? ⟨g + 1, 0, none⟩ = some (.bool nb)), (3, fun w' => w'.cell? ⟨g + 1, 0, none⟩ = some (.bool nb) ∧ w'.cell? ⟨g + 1, 1, none⟩ = some (.slice bo bl bc) ∧ w'.cell? ⟨g + 1, 2, none⟩ = some (.slice bO bL bC)), (8, fun w' => w'.cell? ⟨g + 1, 1, none⟩ = some (.slice bo bl bc))] := ⟨(qb.below B6).cells.1, (qb.below B6).cells, (qb.below B6).cells.2.1, trivial⟩
        refine hK.out _ _ (AllL.kept hHeld) ?_
        clear hK K
        (try simp only [Act.put, putA, putB, putC])
        refine late_st 5 rfl (fun K hK => ?_)
        go_simp
        refine hK.out _ _ (AllL.kept hHeld) ?_
        clear hK K
        (try simp only [Act.put, putA, putB, putC])
        refine late_st 9 rfl (fun K hK => ?_)
        go_simp
        refine hK.out _ _ (AllL.kept hHeld) ?_
        clear hK K
        (try simp only [Act.put, putA, putB, putC])
        have hm3 : Own _ 37 (((w6.setCell ⟨vx, 0, none⟩ (.bool nb)).setCell ⟨vx, 1, none⟩ (.slice mo ml mc)).setCell ⟨vx, 2, none⟩ (.slice bo bl bc)) (.slice mo ml mc) (lim (und k).natAbs) := ((hm.other _ hne).other _ hne).other _ hne
        have HIB : Hid (QCell (((w6.setCell ⟨vx, 0, none⟩ (.bool nb)).setCell ⟨vx, 1, none⟩ (.slice mo ml mc)).setCell ⟨vx, 2, none⟩ (.slice bo bl bc)) vx nb (.slice mo ml mc) (.slice bo bl bc) ∧ Num (((w6.setCell ⟨vx, 0, none⟩ (.bool nb)).setCell ⟨vx, 1, none⟩ (.slice mo ml mc)).setCell ⟨vx, 2, none⟩ (.slice bo bl bc)) (.slice mo ml mc) (lim (und k).natAbs) ∧ Below w2.heap.size w2 (((w6.setCell ⟨vx, 0, none⟩ (.bool nb)).setCell ⟨vx, 1, none⟩ (.slice mo ml mc)).setCell ⟨vx, 2, none⟩ (.slice bo bl bc))) := ⟨hp.write _ _ _, hm3.num, ((B6.setCell (p := ⟨vx, 0, none⟩) HPV _).setCell (p := ⟨vx, 1, none⟩) HPV _).setCell (p := ⟨vx, 2, none⟩) HPV _⟩
        obtain ⟨y0, y1, y2⟩ := hp.cells
        have f0 := hp.thaw 0
        have f1 := hp.thaw 1
        have f2 := hp.thaw 2
        clear hne hm hm3 hp HPW HPV
        refine late_st 11 rfl (fun K hK => ?_)
        go_simp
        refine hK.out _ _ ⟨kpt 5, kpt 4, kpt 9, trivial⟩ ?_
        clear hK K
        (try simp only [Act.put, putA, putB, putC])
        refine late_done (by kernel_rfl) ?_ _
        clear hHeld y0 y1 y2 f0 f1 f2
        go_wp2_with fail
        go_meet
        exact ⟨_, _, _, _, rfl, HIB.out.1, HIB.out.2.1, HIB.out.2.2⟩
    · go_simp
      obtain ⟨w7, hw7⟩ : ∃ u, u = (w2.alloc (.cells #[.bool false, .slice none 0 0, .slice none 0 0] 27)).drew := ⟨_, rfl⟩
      have hp : QCell w7 w2.heap.size false (.slice none 0 0) (.slice none 0 0) := by rw [hw7]; exact qcell_new _ rfl
      have b7 : Below w2.drew.heap.size w2.drew w7 := by rw [hw7]; exact belowA w2.drew _
      have B7 : Below w2.heap.size w2 w7 := bstep (below_drew' _) b7
      rw [← hw7]
      obtain ⟨vx, hpv⟩ : ∃ v, v = w2.heap.size := ⟨_, rfl⟩
      have HPV : w2.heap.size ≤ vx := by rw [hpv]; exact Nat.le_refl _
      have HPW : vx < w7.heap.size := by rw [hpv]; exact (Array.getElem?_eq_some_iff.1 hp).1
      rw [← hpv] at hp ⊢
      clear hpv hw7
      clear hHeld
      have hHeld : AllL w7 [(2, fun w' => w'.cell? ⟨g + 1, 0, none⟩ = some (.bool nb)), (3, fun w' => w'.cell? ⟨g + 1, 0, none⟩ = some (.bool nb) ∧ w'.cell? ⟨g + 1, 1, none⟩ = some (.slice bo bl bc) ∧ w'.cell? ⟨g + 1, 2, none⟩ = some (.slice bO bL bC)), (8, fun w' => w'.cell? ⟨g + 1, 1, none⟩ = some (.slice bo bl bc))] := ⟨(qb.below B7).cells.1, (qb.below B7).cells, (qb.below B7).cells.2.1, trivial⟩
      refine hK.out _ _ (AllL.kept hHeld) ?_
      clear hK K
      (try simp only [Act.put, putA, putB, putC])
      refine late_st 4 rfl (fun K hK => ?_)
      go_simp
      have hq := den3E (na := nb) (ao := bo) (al := bl) (ac := bc) ((db.below (below_drew' _)).below b7) (by omega)
      refine hq.mono ?_
      rintro e w8 ⟨m, rfl, hm, b8⟩
      clear hq
      obtain ⟨mo, ml, mc, rfl⟩ := hm.sl
      have hne : (Value.slice mo ml mc).ownBlock = none ∨ (Value.slice mo ml mc).ownBlock ≠ some vx := (by rcases hu : (Value.slice mo ml mc).ownBlock with _ | k; exact .inl rfl; exact .inr fun e => by have h1 := (hm.block k hu).1; have h2 := Option.some.inj e; omega)
      have B8 : Below w2.heap.size w2 w8 := bstep B7 b8
      clear hHeld
      have hHeld : AllL w8 [(2, fun w' => w'.cell? ⟨g + 1, 0, none⟩ = some (.bool nb)), (3, fun w' => w'.cell? ⟨g + 1, 0, none⟩ = some (.bool nb) ∧ w'.cell? ⟨g + 1, 1, none⟩ = some (.slice bo bl bc) ∧ w'.cell? ⟨g + 1, 2, none⟩ = some (.slice bO bL bC)), (8, fun w' => w'.cell? ⟨g + 1, 1, none⟩ = some (.slice bo bl bc))] := ⟨(qb.below B8).cells.1, (qb.below B8).cells, (qb.below B8).cells.2.1, trivial⟩
      go_wp2_with fail
      refine hK.out _ _ (AllL.kept hHeld) ?_
      clear hK K
      (try simp only [Act.put, putA, putB, putC])
      replace hp := hp.below b8
      replace HPW : vx < w8.heap.size := Nat.lt_of_lt_of_le HPW b8.size
      refine late_st 5 rfl (fun K hK => ?_)
      go_simp
      refine hK.out _ _ (AllL.kept hHeld) ?_
      clear hK K
      (try simp only [Act.put, putA, putB, putC])
      refine late_st 9 rfl (fun K hK => ?_)
      go_simp
      refine hK.out _ _ (AllL.kept hHeld) ?_
      clear hK K
      (try simp only [Act.put, putA, putB, putC])
      have hm3 : Own _ 37 (((w8.setCell ⟨vx, 0, none⟩ (.bool nb)).setCell ⟨vx, 1, none⟩ (.slice mo ml mc)).setCell ⟨vx, 2, none⟩ (.slice bo bl bc)) (.slice mo ml mc) (lim (und k).natAbs) := ((hm.other _ hne).other _ hne).other _ hne
      have HIB : Hid (QCell (((w8.setCell ⟨vx, 0, none⟩ (.bool nb)).setCell ⟨vx, 1, none⟩ (.slice mo ml mc)).setCell ⟨vx, 2, none⟩ (.slice bo bl bc)) vx nb (.slice mo ml mc) (.slice bo bl bc) ∧ Num (((w8.setCell ⟨vx, 0, none⟩ (.bool nb)).setCell ⟨vx, 1, none⟩ (.slice mo ml mc)).setCell ⟨vx, 2, none⟩ (.slice bo bl bc)) (.slice mo ml mc) (lim (und k).natAbs) ∧ Below w2.heap.size w2 (((w8.setCell ⟨vx, 0, none⟩ (.bool nb)).setCell ⟨vx, 1, none⟩ (.slice mo ml mc)).setCell ⟨vx, 2, none⟩ (.slice bo bl bc))) := ⟨hp.write _ _ _, hm3.num, ((B8.setCell (p := ⟨vx, 0, none⟩) HPV _).setCell (p := ⟨vx, 1, none⟩) HPV _).setCell (p := ⟨vx, 2, none⟩) HPV _⟩
      obtain ⟨y0, y1, y2⟩ := hp.cells
      have f0 := hp.thaw 0
      have f1 := hp.thaw 1
      have f2 := hp.thaw 2
      clear hne hm hm3 hp HPW HPV
      refine late_st 11 rfl (fun K hK => ?_)
      go_simp
      refine hK.out _ _ ⟨kpt 5, kpt 4, kpt 9, trivial⟩ ?_
      clear hK K
      (try simp only [Act.put, putA, putB, putC])
      refine late_done (by kernel_rfl) ?_ _
      clear hHeld y0 y1 y2 f0 f1 f2
      go_wp2_with fail
      go_meet
      exact ⟨_, _, _, _, rfl, HIB.out.1, HIB.out.2.1, HIB.out.2.2⟩
  case rest =>
    obtain ⟨vx, xo, xl, xc, rfl, qx, ux, b⟩ := hcut
    replace ia := ia.below b
    replace ub := ub.below (Nat.le_refl _) b
    replace da := da.below b
    replace db := db.below b
    replace ib0 := ib0.below b
    replace qa := qa.below b
    replace qb := qb.below b
    replace qR := qR.below b
    replace hb := bstep hb b
    replace hsz := Nat.lt_of_lt_of_le hsz b.size
    clear b
    obtain ⟨cqa0, cqa1, cqa2⟩ := qa.cells
    obtain ⟨cqb0, cqb1, cqb2⟩ := qb.cells
    obtain ⟨cqR0, cqR1, cqR2⟩ := qR.cells
    obtain ⟨cqx0, cqx1, cqx2⟩ := qx.cells
    go_wp2_with fail
    clear cqa0 cqa1 cqa2 cqb0 cqb1 cqb2 cqR0 cqR1 cqR2 cqx0 cqx1 cqx2
    have hq := mul3 (p := p) (r := zv nb (und k).natAbs) (q := q) (k := R0) na ao aO al ac aL aC nb xo bo xl xc bl bc ia da h1L ⟨_, _, _, _, _, rfl, ux, hlk, by rw [val_lim]⟩ ⟨_, _, _, _, rfl, ub, HRB.out.2, by rw [← HRB.out.1]⟩ h1M (by omega)
    rw [HZ.out] at hq
    have hszz := hsz
    refine (hq).mono ?_
    rintro e w9 ⟨v, rfl, hv, b⟩
    clear hq
    obtain ⟨m, d, rfl, hm, hd, hap⟩ := hv
    obtain ⟨mo, ml, mc, rfl⟩ := hm.sl
    obtain ⟨mO, mL, mC, rfl⟩ := hd.sl
    replace ia := ia.below b
    replace ub := ub.below (Nat.le_refl _) b
    replace da := da.below b
    replace db := db.below b
    replace ib0 := ib0.below b
    replace ux := ux.below (Nat.le_refl _) b
    replace qa := qa.below b
    replace qb := qb.below b
    replace qR := qR.below b
    replace qx := qx.below b
    replace hb := bstep hb b
    replace hsz := Nat.lt_of_lt_of_le hsz b.size
    clear b
    have qq := qR
    have HE : Hid (REnd w Z (.returned (.agg #[.bool (decide (Z.num < 0)), .slice mo ml mc, .slice mO mL mC])) (((w9.setCell ⟨g + 1 + 1, 0, none⟩ (.bool (decide (Z.num < 0)))).setCell ⟨g + 1 + 1, 1, none⟩ (.slice mo ml mc)).setCell ⟨g + 1 + 1, 2, none⟩ (.slice mO mL mC))) := rat_done rfl (by rw [HG.out]; omega) hm hd hap hszz (hb)
    have HW : Hid (QCell (((w9.setCell ⟨g + 1 + 1, 0, none⟩ (.bool (decide (Z.num < 0)))).setCell ⟨g + 1 + 1, 1, none⟩ (.slice mo ml mc)).setCell ⟨g + 1 + 1, 2, none⟩ (.slice mO mL mC)) (g + 1 + 1) (decide (Z.num < 0)) (.slice mo ml mc) (.slice mO mL mC)) := qq.write _ _ _
    obtain ⟨y0, y1, y2⟩ := qq.cells
    have f0 := qq.thaw 0
    have f1 := qq.thaw 1
    have f2 := qq.thaw 2
    generalize decide (Z.num < 0) = bb at *
    clear qq hap
    clear hb hsz hszz hm hd qa qb qR qx ia ub da db ib0 ux hlk
    go_wp2_with fail
    (try simp only [Exit.inBlock, Exit.then])
    exact bodyPost_ret (results_ct (p := 4) (u := 5) rfl _ _ (g + 1 + 1) 27 _ (0, 0) _ rfl HW.out Tryz.underlying27 rfl (by kernel_rfl)) rfl HE.out.t
end Go.Proofs.YtfnafgjnimfmjaaGreatDoor
