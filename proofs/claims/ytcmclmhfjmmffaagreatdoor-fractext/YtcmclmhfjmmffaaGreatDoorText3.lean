/-
  Proved here: what Text of the document's layer 3 answers.
-/
import Derived.Test.YtcmclmhfjmmffaaGreatDoorR3C
namespace Go.Proofs.YtcmclmhfjmmffaaGreatDoor
open Go.RowKit
attribute [local go_sem ↓] Go.wp_at_zero Go.wp_at_succ

theorem Own.set3 {B e : Nat} {w : World} {v : Value} {xs : List Nat} (h : Own B e w v xs) {g : Nat} (hg : g < B) (a b c : Value) : Own B e (((w.setCell ⟨g, 0, none⟩ a).setCell ⟨g, 1, none⟩ b).setCell ⟨g, 2, none⟩ c) v xs := by
  have hne : v.ownBlock = none ∨ v.ownBlock ≠ some g := by
    rcases hu : v.ownBlock with _ | k
    · exact .inl rfl
    · exact .inr fun e => by have := (h.block k hu).1; have := Option.some.inj e; omega
  exact ((h.other a hne).other b hne).other c hne
theorem rnum_of {p : Int} {q L : Nat} {na : Bool} {ao aO : Option Addr} {al ac aL aC : Nat} {w : World} (ia : IB w (.agg #[.bool na, .slice ao al ac]) p L) (da : NB w (.slice aO aL aC) (q : Int) L) (h1L : 1 ≤ L) (hL : L ≤ 1000000) : RNum w (.agg #[.bool na, .slice ao al ac, .slice aO aL aC]) (rq p q) L := by
  have h1 := ia.sz
  have h2 := und_sz da.sz h1L
  have h3 := ia.num hL
  obtain ⟨o, l, c, ys, e, k1, k2, k3⟩ := da
  cases e
  exact ⟨p, q, ⟨_, _, _, _, _, _, _, ys, rfl, h3, k1, by omega, by omega⟩, rfl, h1, h2⟩
set_option maxRecDepth 100000 in
set_option maxHeartbeats 6400000 in
theorem text3_one {p : Int} {q L : Nat} (na : Bool) (ao aO : Option Addr) (al ac aL aC : Nat) {w : World} (ia : IB w (.agg #[.bool na, .slice ao al ac]) p L) (da : NB w (.slice aO aL aC) (q : Int) L) (h1L : 1 ≤ L) (hL : L ≤ 150) (hone : (rq p q).den = 1) : Calls Tryz.prog 49 #[.agg #[.bool na, .slice ao al ac, .slice aO aL aC]] w fun e w' => e = .returned (.string (rt (rq p q))) ∧ Below w.heap.size w w' := by
  have hsz0 := (rnum_of ia da h1L (by omega)).sz
  have hfit := fun w ia da => fit3 (p := p) (q := q) (L := L) na ao aO al ac aL aC (w := w) ia da h1L hL
  obtain ⟨Z, hZ⟩ : ∃ Z, Z = rq p q := ⟨_, rfl⟩
  rw [← hZ] at hsz0 hone hfit ⊢
  clear hZ
  have hzs := zt_size hsz0.num
  have hxs := txt_short (n := Z.den) (L := L) (by have := hsz0.den.len; rw [Int.natAbs_natCast] at this; exact this)
  have hln := hsz0.num.len
  have hld : (lim Z.den).length ≤ L := by have := hsz0.den.len; rw [Int.natAbs_natCast] at this; exact this
  obtain ⟨t, ht⟩ : ∃ t, t = zt Z.num := ⟨_, rfl⟩
  have HT : Hid (zt Z.num = t) := ht.symm
  rw [← ht] at hzs
  obtain ⟨t2, ht2⟩ : ∃ t, t = txt Z.den := ⟨_, rfl⟩
  have HT2 : Hid (txt Z.den = t2) := ht2.symm
  rw [← ht2] at hxs
  have HRT : Hid (rt Z = t) := by show _ = _; unfold rt; rw [if_pos hone, ht]
  rw [HRT.out]
  clear ht ht2
  obtain ⟨c, hc⟩ : ∃ c, c = cmpN Z.den 1 := ⟨_, rfl⟩
  have HC : Hid (cmpN Z.den 1 = c) := hc.symm
  have hc0 : c = 0 := by rw [hc, hone]; rfl
  clear hc hone hsz0
  obtain ⟨W1, hW1⟩ : ∃ W1, W1 = w.alloc (.cells #[.bool na, .slice ao al ac, .slice aO aL aC] 27) := ⟨_, rfl⟩
  have qa : QCell W1 (w.heap.size) na (.slice ao al ac) (.slice aO aL aC) := by rw [hW1]; exact (qcell_new _ (by simp))
  have hb : Below w.heap.size w W1 := by rw [hW1]; exact belowA w _
  have hsz : w.heap.size < W1.heap.size := by rw [hW1]; simp
  replace da := da.below hb
  replace ia := ia.below hb
  have HW1 : Hid (W1 = w.alloc (.cells #[.bool na, .slice ao al ac, .slice aO aL aC] 27)) := hW1
  clear hW1
  go_enter Tryz.func49, Tryz.ntmps49
  go_wp2_with fail
  rw [← HW1.out]
  clear HW1
  obtain ⟨g, hg⟩ : ∃ g, g = w.heap.size := ⟨_, rfl⟩
  rw [← hg] at qa hsz ⊢
  have HG : Hid (g = w.heap.size) := hg
  clear hg
  obtain ⟨cqa0, cqa1, cqa2⟩ := qa.cells
  go_wp2_with fail
  clear cqa0 cqa1 cqa2
  have hq := hfit _ ia da
  refine hq.mono ?_
  rintro e w2 ⟨v, rfl, hv, b⟩
  clear hq hfit ia da
  obtain ⟨m, d, rfl, hm, hd, hap⟩ := hv
  obtain ⟨mo, ml, mc, rfl⟩ := hm.sl
  obtain ⟨mO, mL, mC, rfl⟩ := hd.sl
  have hszz := hsz
  replace qa := qa.below b
  replace hb := bstep hb b
  clear b hap
  generalize hbb : decide (Z.num < 0) = bb at *
  obtain ⟨X, hX⟩ : ∃ X, X = (((w2.setCell ⟨g, 0, none⟩ (.bool bb)).setCell ⟨g, 1, none⟩ (.slice mo ml mc)).setCell ⟨g, 2, none⟩ (.slice mO mL mC)) := ⟨_, rfl⟩
  obtain ⟨y0, y1, y2⟩ := qa.cells
  have f0 := qa.thaw 0
  have f1 := qa.thaw 1
  have f2 := qa.thaw 2
  have qa2 : QCell X g bb (.slice mo ml mc) (.slice mO mL mC) := by rw [hX]; exact qa.write _ _ _
  replace hm := hm.set3 hszz (.bool bb) (.slice mo ml mc) (.slice mO mL mC)
  replace hd := hd.set3 hszz (.bool bb) (.slice mo ml mc) (.slice mO mL mC)
  rw [← hX] at hm hd
  replace hb : Below w.heap.size w X := by rw [hX]; exact iend3 hb (by rw [HG.out]; exact Nat.le_refl _)
  have rr0 : ((((w2.setCell ⟨g, 0, none⟩ (.bool bb)).setCell ⟨g, 1, none⟩ (.slice mo ml mc)).setCell ⟨g, 2, none⟩ (.slice mO mL mC))).cell? ⟨g, 0, none⟩ = some (.bool bb) := by rw [← hX]; exact qa2.cells.1
  have rr1 : ((((w2.setCell ⟨g, 0, none⟩ (.bool bb)).setCell ⟨g, 1, none⟩ (.slice mo ml mc)).setCell ⟨g, 2, none⟩ (.slice mO mL mC))).cell? ⟨g, 1, none⟩ = some (.slice mo ml mc) := by rw [← hX]; exact qa2.cells.2.1
  have rr2 : ((((w2.setCell ⟨g, 0, none⟩ (.bool bb)).setCell ⟨g, 1, none⟩ (.slice mo ml mc)).setCell ⟨g, 2, none⟩ (.slice mO mL mC))).cell? ⟨g, 2, none⟩ = some (.slice mO mL mC) := by rw [← hX]; exact qa2.cells.2.2
  have HX : Hid (X = (((w2.setCell ⟨g, 0, none⟩ (.bool bb)).setCell ⟨g, 1, none⟩ (.slice mo ml mc)).setCell ⟨g, 2, none⟩ (.slice mO mL mC))) := hX
  clear hX qa hsz hszz
  go_wp2_with fail
  rw [← HX.out]
  clear HX y0 y1 y2 f0 f1 f2 rr0 rr1 rr2
  have iz : INum X (.agg #[.bool bb, .slice mo ml mc]) Z.num := ⟨_, _, _, _, _, rfl, hm.num, by omega, by rw [val_lim, ← hbb]; exact zv_self _⟩
  have hq := r_text iz
  rw [HT.out] at hq
  clear iz hm hbb hln
  refine hq.mono ?_
  rintro e w3 ⟨rfl, b⟩
  clear hq
  replace qa2 := qa2.below b
  replace hd := hd.below b
  replace hb := bstep hb b
  clear b
  obtain ⟨c0, c1, c2⟩ := qa2.cells
  go_wp2_with fail
  clear c0 c1
  go_region_held3 (fun w' => w'.cell? ⟨g, 2, none⟩ = some (.slice mO mL mC)) (((try dsimp only); go_split_ands; first | exact keepB (by with_reducible assumption) (by with_reducible assumption) | go_keep)) (first
    | (go_at_call 89; refine (one3 _).mono ?_; rintro e w4 ⟨oo, ol, oc, rfl, ho, b4⟩; obtain ⟨o2, l2, c2', zs, e2, k1, k2, k3⟩ := ho; cases e2)
    | (go_at_call 88; have hq := cmp_ref _ _ _ _ w4 ((hd.num.same (w' := w3.drew) rfl).below (Nat.le_refl _) b4) k1 (by omega) (by omega); rw [val_lim, show val zs = 1 by omega, HC.out] at hq; refine hq.mono ?_; rintro e w5 ⟨rfl, hw5⟩; rw [hw5]))
  all_goals
    have b5 : Below w3.heap.size w3 w4 := bstep (Below.refl _ _).drew b4
    replace qa2 := qa2.below b5
    replace hd := hd.below b5
    replace hb := bstep hb b5
    clear b5 b4 c2 k1 k2 k3
    have HE : Hid (Below w.heap.size w w4) := hb
    clear qa2 hd hb hld hzs hxs
    go_wp2
    go_ret
    exact ⟨rfl, HE.out⟩
set_option maxRecDepth 100000 in
set_option maxHeartbeats 6400000 in
theorem text3_more {p : Int} {q L : Nat} (na : Bool) (ao aO : Option Addr) (al ac aL aC : Nat) {w : World} (ia : IB w (.agg #[.bool na, .slice ao al ac]) p L) (da : NB w (.slice aO aL aC) (q : Int) L) (h1L : 1 ≤ L) (hL : L ≤ 150) (hone : ¬ (rq p q).den = 1) : Calls Tryz.prog 49 #[.agg #[.bool na, .slice ao al ac, .slice aO aL aC]] w fun e w' => e = .returned (.string (rt (rq p q))) ∧ Below w.heap.size w w' := by
  have hsz0 := (rnum_of ia da h1L (by omega)).sz
  have hfit := fun w ia da => fit3 (p := p) (q := q) (L := L) na ao aO al ac aL aC (w := w) ia da h1L hL
  obtain ⟨Z, hZ⟩ : ∃ Z, Z = rq p q := ⟨_, rfl⟩
  rw [← hZ] at hsz0 hone hfit ⊢
  clear hZ
  have hzs := zt_size hsz0.num
  have hxs := txt_short (n := Z.den) (L := L) (by have := hsz0.den.len; rw [Int.natAbs_natCast] at this; exact this)
  have hln := hsz0.num.len
  have hld : (lim Z.den).length ≤ L := by have := hsz0.den.len; rw [Int.natAbs_natCast] at this; exact this
  obtain ⟨t, ht⟩ : ∃ t, t = zt Z.num := ⟨_, rfl⟩
  have HT : Hid (zt Z.num = t) := ht.symm
  rw [← ht] at hzs
  obtain ⟨t2, ht2⟩ : ∃ t, t = txt Z.den := ⟨_, rfl⟩
  have HT2 : Hid (txt Z.den = t2) := ht2.symm
  rw [← ht2] at hxs
  have HRT : Hid (rt Z = t ++ ⟨#[47]⟩ ++ t2) := by show _ = _; unfold rt; rw [if_neg hone, ht, ht2]
  rw [HRT.out]
  clear ht ht2
  obtain ⟨c, hc⟩ : ∃ c, c = cmpN Z.den 1 := ⟨_, rfl⟩
  have HC : Hid (cmpN Z.den 1 = c) := hc.symm
  have hc0 : (c == 0) = false := by rw [hc]; unfold cmpN; repeat' split <;> first | rfl | omega
  clear hc hone hsz0
  obtain ⟨W1, hW1⟩ : ∃ W1, W1 = w.alloc (.cells #[.bool na, .slice ao al ac, .slice aO aL aC] 27) := ⟨_, rfl⟩
  have qa : QCell W1 (w.heap.size) na (.slice ao al ac) (.slice aO aL aC) := by rw [hW1]; exact (qcell_new _ (by simp))
  have hb : Below w.heap.size w W1 := by rw [hW1]; exact belowA w _
  have hsz : w.heap.size < W1.heap.size := by rw [hW1]; simp
  replace da := da.below hb
  replace ia := ia.below hb
  have HW1 : Hid (W1 = w.alloc (.cells #[.bool na, .slice ao al ac, .slice aO aL aC] 27)) := hW1
  clear hW1
  go_enter Tryz.func49, Tryz.ntmps49
  go_wp2_with fail
  rw [← HW1.out]
  clear HW1
  obtain ⟨g, hg⟩ : ∃ g, g = w.heap.size := ⟨_, rfl⟩
  rw [← hg] at qa hsz ⊢
  have HG : Hid (g = w.heap.size) := hg
  clear hg
  obtain ⟨cqa0, cqa1, cqa2⟩ := qa.cells
  go_wp2_with fail
  clear cqa0 cqa1 cqa2
  have hq := hfit _ ia da
  refine hq.mono ?_
  rintro e w2 ⟨v, rfl, hv, b⟩
  clear hq hfit ia da
  obtain ⟨m, d, rfl, hm, hd, hap⟩ := hv
  obtain ⟨mo, ml, mc, rfl⟩ := hm.sl
  obtain ⟨mO, mL, mC, rfl⟩ := hd.sl
  have hszz := hsz
  replace qa := qa.below b
  replace hb := bstep hb b
  clear b hap
  generalize hbb : decide (Z.num < 0) = bb at *
  obtain ⟨X, hX⟩ : ∃ X, X = (((w2.setCell ⟨g, 0, none⟩ (.bool bb)).setCell ⟨g, 1, none⟩ (.slice mo ml mc)).setCell ⟨g, 2, none⟩ (.slice mO mL mC)) := ⟨_, rfl⟩
  obtain ⟨y0, y1, y2⟩ := qa.cells
  have f0 := qa.thaw 0
  have f1 := qa.thaw 1
  have f2 := qa.thaw 2
  have qa2 : QCell X g bb (.slice mo ml mc) (.slice mO mL mC) := by rw [hX]; exact qa.write _ _ _
  replace hm := hm.set3 hszz (.bool bb) (.slice mo ml mc) (.slice mO mL mC)
  replace hd := hd.set3 hszz (.bool bb) (.slice mo ml mc) (.slice mO mL mC)
  rw [← hX] at hm hd
  replace hb : Below w.heap.size w X := by rw [hX]; exact iend3 hb (by rw [HG.out]; exact Nat.le_refl _)
  have rr0 : ((((w2.setCell ⟨g, 0, none⟩ (.bool bb)).setCell ⟨g, 1, none⟩ (.slice mo ml mc)).setCell ⟨g, 2, none⟩ (.slice mO mL mC))).cell? ⟨g, 0, none⟩ = some (.bool bb) := by rw [← hX]; exact qa2.cells.1
  have rr1 : ((((w2.setCell ⟨g, 0, none⟩ (.bool bb)).setCell ⟨g, 1, none⟩ (.slice mo ml mc)).setCell ⟨g, 2, none⟩ (.slice mO mL mC))).cell? ⟨g, 1, none⟩ = some (.slice mo ml mc) := by rw [← hX]; exact qa2.cells.2.1
  have rr2 : ((((w2.setCell ⟨g, 0, none⟩ (.bool bb)).setCell ⟨g, 1, none⟩ (.slice mo ml mc)).setCell ⟨g, 2, none⟩ (.slice mO mL mC))).cell? ⟨g, 2, none⟩ = some (.slice mO mL mC) := by rw [← hX]; exact qa2.cells.2.2
  have HX : Hid (X = (((w2.setCell ⟨g, 0, none⟩ (.bool bb)).setCell ⟨g, 1, none⟩ (.slice mo ml mc)).setCell ⟨g, 2, none⟩ (.slice mO mL mC))) := hX
  clear hX qa hsz hszz
  go_wp2_with fail
  rw [← HX.out]
  clear HX y0 y1 y2 f0 f1 f2 rr0 rr1 rr2
  have iz : INum X (.agg #[.bool bb, .slice mo ml mc]) Z.num := ⟨_, _, _, _, _, rfl, hm.num, by omega, by rw [val_lim, ← hbb]; exact zv_self _⟩
  have hq := r_text iz
  rw [HT.out] at hq
  clear iz hm hbb hln
  refine hq.mono ?_
  rintro e w3 ⟨rfl, b⟩
  clear hq
  replace qa2 := qa2.below b
  replace hd := hd.below b
  replace hb := bstep hb b
  clear b
  obtain ⟨c0, c1, c2⟩ := qa2.cells
  go_wp2_with fail
  clear c0 c1
  go_region_held3 (fun w' => w'.cell? ⟨g, 2, none⟩ = some (.slice mO mL mC)) (((try dsimp only); go_split_ands; first | exact keepB (by with_reducible assumption) (by with_reducible assumption) | go_keep)) (first
    | (go_at_call 89; refine (one3 _).mono ?_; rintro e w4 ⟨oo, ol, oc, rfl, ho, b4⟩; obtain ⟨o2, l2, c2', zs, e2, k1, k2, k3⟩ := ho; cases e2)
    | (go_at_call 88; have hq := cmp_ref _ _ _ _ w4 ((hd.num.same (w' := w3.drew) rfl).below (Nat.le_refl _) b4) k1 (by omega) (by omega); rw [val_lim, show val zs = 1 by omega, HC.out] at hq; refine hq.mono ?_; rintro e w5 ⟨rfl, hw5⟩; rw [hw5]))
  all_goals
    have b5 : Below w3.heap.size w3 w4 := bstep (Below.refl _ _).drew b4
    replace qa2 := qa2.below b5
    replace hd := hd.below b5
    replace hb := bstep hb b5
    clear b5 b4 c2 k1 k2 k3
    obtain ⟨c0, c1, c2⟩ := qa2.cells
    go_wp2_with fail
    have hq := text_ref _ _ _ hd.num (by omega)
    rw [val_lim, HT2.out] at hq
    refine hq.mono ?_
    rintro e w6 ⟨rfl, b⟩
    clear hq
    have HE : Hid (Below w.heap.size w w6) := bstep hb b
    clear qa2 hd hb b c0 c1 c2 hld
    go_wp2
    go_ret
    exact ⟨rfl, HE.out⟩
theorem text3 {p : Int} {q L : Nat} (na : Bool) (ao aO : Option Addr) (al ac aL aC : Nat) {w : World} (ia : IB w (.agg #[.bool na, .slice ao al ac]) p L) (da : NB w (.slice aO aL aC) (q : Int) L) (h1L : 1 ≤ L) (hL : L ≤ 150) : Calls Tryz.prog 49 #[.agg #[.bool na, .slice ao al ac, .slice aO aL aC]] w fun e w' => e = .returned (.string (rt (rq p q))) ∧ Below w.heap.size w w' := by
  by_cases h : (rq p q).den = 1
  · exact text3_one na ao aO al ac aL aC ia da h1L hL h
  · exact text3_more na ao aO al ac aL aC ia da h1L hL h
end Go.Proofs.YtcmclmhfjmmffaaGreatDoor
