/-
  Proved here: what Text of package frac answers.
-/
import Derived.Test.YtfnafgjnimfmjaaGreatDoorFracDAll
namespace Go.Proofs.YtfnafgjnimfmjaaGreatDoor
open Go.RowKit

/-- How a fraction is written. -/
def rt (x : Rat) : ByteArray := if x.den = 1 then zt x.num else zt x.num ++ ⟨#[47]⟩ ++ txt x.den
theorem RStd.parts {w : World} {n : Bool} {ao bo : Option Addr} {al ac bl bc : Nat} {r : Rat} {L : Nat} (h : RStd w (.agg #[.bool n, .slice ao al ac, .slice bo bl bc]) r) (hs : RSz r L) (hL : L ≤ 1000000) : INum w (.agg #[.bool n, .slice ao al ac]) r.num ∧ Num w (.slice bo bl bc) (lim r.den) ∧ n = decide (r.num < 0) ∧ (lim r.den).length ≤ 1000000 := by
  obtain ⟨n', ao', al', ac', bo', bl', bc', e, e2, h1, h2⟩ := h
  simp only [Value.agg.injEq, Array.mk.injEq, List.cons.injEq, Value.bool.injEq, Value.slice.injEq, and_true] at e
  obtain ⟨rfl, ⟨rfl, rfl, rfl⟩, rfl, rfl, rfl⟩ := e
  refine ⟨⟨_, _, _, _, _, rfl, h1, Nat.le_trans hs.num.len hL, ?_⟩, h2, e2, ?_⟩
  · rw [val_lim, e2]; exact zv_self _
  · have := hs.den.len
    rw [Int.natAbs_natCast] at this
    omega
theorem RNum.sz {w : World} {v : Value} {x : Rat} {L : Nat} (h : RNum w v x L) : RSz x L := by
  obtain ⟨p, q, _, rfl, h1, h2⟩ := h
  exact RSz.of (und_ne _) h1 h2
theorem zt_size {z : Int} {L : Nat} (h : Sz z L) : (zt z).size ≤ 32 * L + 2 := by
  unfold zt ztxt
  have h1 := txt_short h.len
  split
  · rw [ByteArray.size_append]; show 1 + _ ≤ _; omega
  · omega
theorem cmpN_ne {a : Nat} (h : ¬ a = 1) : (cmpN a 1 == 0) = false := by
  unfold cmpN
  repeat' split
  all_goals first | rfl | omega
set_option maxRecDepth 100000 in
set_option maxHeartbeats 6400000 in
theorem c_rtext {a : Value} {x : Rat} {L : Nat} {w : World} (ha : RNum w a x L) (hL : L ≤ 1000000) : Calls Tryz.prog 19 #[a] w fun e w' => e = .returned (.string (rt x)) ∧ Below w.heap.size w w' := by
  have hsz0 := ha.sz
  by_cases hone : x.den = 1
  · obtain ⟨Z, hZ⟩ : ∃ Z, Z = x := ⟨_, rfl⟩
    rw [← hZ]
    rw [← hZ] at hone hsz0
    obtain ⟨p, q, ha, rfl, sp, sq⟩ := ha
    obtain ⟨na, ao, al, ac, aO, aL, aC, ya, rfl, ia, da, la, ea⟩ := ha
    have ra : RRaw w (.agg #[.bool na, .slice ao al ac, .slice aO aL aC]) p q := ⟨_, _, _, _, _, _, _, _, rfl, ia, da, la, ea⟩
    clear da la ea
    have HZ : Hid (Rat.divInt p (und q) = Z) := hZ.symm
    clear hZ
    have hzs := zt_size hsz0.num
    have hxs := txt_short (n := Z.den) (L := L) (by have := hsz0.den.len; rw [Int.natAbs_natCast] at this; exact this)
    obtain ⟨t, ht⟩ : ∃ t, t = zt Z.num := ⟨_, rfl⟩
    have HT : Hid (zt Z.num = t) := ht.symm
    rw [← ht] at hzs
    clear ht
    obtain ⟨t2, ht2⟩ : ∃ t, t = txt Z.den := ⟨_, rfl⟩
    have HT2 : Hid (txt Z.den = t2) := ht2.symm
    rw [← ht2] at hxs
    clear ht2
    have HRT : Hid (rt Z = t) := by show _ = _; unfold rt; rw [if_pos hone, HT.out]
    rw [HRT.out]
    have HONE : Hid (Z.den = 1) := hone
    clear hone
    obtain ⟨W1, hW1⟩ : ∃ W1, W1 = w.alloc (.cells #[.bool na, .slice ao al ac, .slice aO aL aC] 27) := ⟨_, rfl⟩
    have qa : QCell W1 (w.heap.size) na (.slice ao al ac) (.slice aO aL aC) := by rw [hW1]; exact (qcell_new _ (by simp))
    have hb : Below w.heap.size w W1 := by rw [hW1]; exact belowA w _
    have hsz : w.heap.size < W1.heap.size := by rw [hW1]; simp
    replace ia := ia.below hb
    replace ra := ra.below hb
    have HW1 : Hid (W1 = w.alloc (.cells #[.bool na, .slice ao al ac, .slice aO aL aC] 27)) := hW1
    clear hW1
    go_enter Tryz.func19, Tryz.ntmps19
    go_wp2_with fail
    rw [← HW1.out]
    clear HW1
    obtain ⟨g, hg⟩ : ∃ g, g = w.heap.size := ⟨_, rfl⟩
    rw [← hg] at qa hsz ⊢
    have HG : Hid (g = w.heap.size) := hg
    clear hg
    refine region_late [(1, fun w' => w'.cell? ⟨g, 0, none⟩ = some (.bool na) ∧ w'.cell? ⟨g, 1, none⟩ = some (.slice ao al ac)), (2, fun w' => w'.cell? ⟨g, 0, none⟩ = some (.bool na) ∧ w'.cell? ⟨g, 1, none⟩ = some (.slice ao al ac) ∧ w'.cell? ⟨g, 2, none⟩ = some (.slice aO aL aC))] (by kernel_rfl) ?_
    have hHeld : AllL W1.drew [(1, fun w' => w'.cell? ⟨g, 0, none⟩ = some (.bool na) ∧ w'.cell? ⟨g, 1, none⟩ = some (.slice ao al ac)), (2, fun w' => w'.cell? ⟨g, 0, none⟩ = some (.bool na) ∧ w'.cell? ⟨g, 1, none⟩ = some (.slice ao al ac) ∧ w'.cell? ⟨g, 2, none⟩ = some (.slice aO aL aC))] := ⟨⟨(show QCell W1.drew (g) na (.slice ao al ac) (.slice aO aL aC) from qa).cells.1, (show QCell W1.drew (g) na (.slice ao al ac) (.slice aO aL aC) from qa).cells.2.1⟩, (show QCell W1.drew (g) na (.slice ao al ac) (.slice aO aL aC) from qa).cells, trivial⟩
    refine late_fr 0 (v := .pointer (some ⟨g, 0, none⟩)) rfl (Or.inl ⟨by rfl, ?_⟩) hHeld ?_
    · (intro u _; go_simp)
    (try simp only [Act.put, putA, putB, putC])
    refine late_tk 1 (v := .agg #[.bool na, .slice ao al ac]) rfl (List.Mem.head _) (Or.inl ⟨by rfl, ?_⟩) hHeld ?_
    · (intro u hu; (try dsimp only at hu); go_split_ands; go_simp)
    (try simp only [Act.put, putA, putB, putC])
    refine late_tk 2 (v := .agg #[.bool na, .slice ao al ac, .slice aO aL aC]) rfl (List.Mem.tail _ (List.Mem.head _)) (Or.inl ⟨by rfl, ?_⟩) hHeld ?_
    · (intro u hu; (try dsimp only at hu); go_split_ands; go_simp)
    (try simp only [Act.put, putA, putB, putC])
    refine late_st 3 rfl (fun K hK => ?_)
    go_simp
    refine (c_under (ra.below (below_drew' _))).mono ?_
    rintro e w2 ⟨v, rfl, hv, b2⟩
    obtain ⟨nm7, m7o, m7l, m7c, rfl, im7⟩ := hv.see
    clear hv
    have B2 : Below W1.heap.size W1 w2 := bstep (below_drew' _) b2
    clear hHeld
    have hHeld : AllL w2 [(1, fun w' => w'.cell? ⟨g, 0, none⟩ = some (.bool na) ∧ w'.cell? ⟨g, 1, none⟩ = some (.slice ao al ac)), (2, fun w' => w'.cell? ⟨g, 0, none⟩ = some (.bool na) ∧ w'.cell? ⟨g, 1, none⟩ = some (.slice ao al ac) ∧ w'.cell? ⟨g, 2, none⟩ = some (.slice aO aL aC))] := ⟨⟨(qa.below B2).cells.1, (qa.below B2).cells.2.1⟩, (qa.below B2).cells, trivial⟩
    go_wp2_with fail
    refine hK.out _ _ (AllL.kept hHeld) ?_
    clear hK K
    (try simp only [Act.put, putA, putB, putC])
    refine late_st 4 rfl (fun K hK => ?_)
    go_simp
    have hq := c_lowest ((ia.below (below_drew' _)).below b2) im7 (und_ne _)
    rw [HZ.out] at hq
    refine hq.mono ?_
    rintro e w3 ⟨v, rfl, hv, b3⟩
    clear hq
    obtain ⟨m, d, rfl, hm, hd, hap⟩ := hv
    obtain ⟨mo, ml, mc, rfl⟩ := hm.sl
    obtain ⟨mO, mL, mC, rfl⟩ := hd.sl
    have B3 : Below W1.heap.size W1 w3 := bstep B2 b3
    clear hHeld
    have hHeld : AllL w3 [(1, fun w' => w'.cell? ⟨g, 0, none⟩ = some (.bool na) ∧ w'.cell? ⟨g, 1, none⟩ = some (.slice ao al ac)), (2, fun w' => w'.cell? ⟨g, 0, none⟩ = some (.bool na) ∧ w'.cell? ⟨g, 1, none⟩ = some (.slice ao al ac) ∧ w'.cell? ⟨g, 2, none⟩ = some (.slice aO aL aC))] := ⟨⟨(qa.below B3).cells.1, (qa.below B3).cells.2.1⟩, (qa.below B3).cells, trivial⟩
    go_wp2_with fail
    refine hK.out _ _ (AllL.kept hHeld) ?_
    clear hK K
    (try simp only [Act.put, putA, putB, putC])
    have qq := qa.below B3
    have HE : Hid (REnd w Z (.returned (.agg #[.bool (decide (Z.num < 0)), .slice mo ml mc, .slice mO mL mC])) (((w3.setCell ⟨g, 0, none⟩ (.bool (decide (Z.num < 0)))).setCell ⟨g, 1, none⟩ (.slice mo ml mc)).setCell ⟨g, 2, none⟩ (.slice mO mL mC))) := rat_done rfl (by rw [HG.out]; omega) hm hd hap (Nat.lt_of_lt_of_le hsz B2.size) (bstep hb B3)
    have HW : Hid (QCell (((w3.setCell ⟨g, 0, none⟩ (.bool (decide (Z.num < 0)))).setCell ⟨g, 1, none⟩ (.slice mo ml mc)).setCell ⟨g, 2, none⟩ (.slice mO mL mC)) (g) (decide (Z.num < 0)) (.slice mo ml mc) (.slice mO mL mC)) := qq.write _ _ _
    obtain ⟨y0, y1, y2⟩ := qq.cells
    have f0 := qq.thaw 0
    have f1 := qq.thaw 1
    have f2 := qq.thaw 2
    generalize decide (Z.num < 0) = bb at *
    clear qq hap
    clear im7
    refine late_st 5 rfl (fun K hK => ?_)
    go_simp
    refine hK.out _ _ ⟨kpt 4, kpt 3, trivial⟩ ?_
    clear hK K
    (try simp only [Act.put, putA, putB, putC])
    refine late_done (by kernel_rfl) ?_ _
    clear hHeld
    clear hm hd qa ra ia b2 b3 B2 B3
    obtain ⟨Y, hY⟩ : ∃ Y, Y = (((w3.setCell ⟨g, 0, none⟩ (.bool bb)).setCell ⟨g, 1, none⟩ (.slice mo ml mc)).setCell ⟨g, 2, none⟩ (.slice mO mL mC)) := ⟨_, rfl⟩
    rw [← hY] at HE HW ⊢
    clear hY y0 y1 y2 f0 f1 f2
    obtain ⟨v, hv, ow, hb2⟩ := HE.out
    cases hv
    have qa := HW.out
    clear hb HE HW
    have hb := hb2
    clear hb2
    obtain ⟨ix, ud, hnn, ld⟩ := ow.std.parts hsz0 hL
    clear ow hnn
    clear hsz
    have hsz : g < Y.heap.size := (Array.getElem?_eq_some_iff.1 (show Y.heap[g]? = _ from qa)).1
    obtain ⟨cqa0, cqa1, cqa2⟩ := qa.cells
    go_wp2_with fail
    clear cqa0 cqa1 cqa2
    have hq := c_text ix
    rw [HT.out] at hq
    refine (hq).mono ?_
    rintro e w21 ⟨rfl, b⟩
    clear hq
    replace ix := ix.below b
    replace ud := ud.below (Nat.le_refl _) b
    replace qa := qa.below b
    replace hb := bstep hb b
    replace hsz := Nat.lt_of_lt_of_le hsz b.size
    clear b
    clear ix
    obtain ⟨cqa0, cqa1, cqa2⟩ := qa.cells
    go_wp2_with fail
    clear cqa0 cqa1 cqa2
    obtain ⟨c, hc⟩ : ∃ c, c = cmpN Z.den 1 := ⟨_, rfl⟩
    have HCC : Hid (cmpN Z.den 1 = c) := hc.symm
    have hc0 : (c == 0) = true := by rw [hc, HONE.out]; decide
    clear hc
    refine region_late [(1, fun w' => w'.cell? ⟨g, 2, none⟩ = some (.slice mO mL mC))] (by kernel_rfl) ?_
    have hHeld : AllL w21.drew [(1, fun w' => w'.cell? ⟨g, 2, none⟩ = some (.slice mO mL mC))] := ⟨(show QCell w21.drew (g) bb (.slice mo ml mc) (.slice mO mL mC) from qa).cells.2.2, trivial⟩
    refine late_fr 0 (v := .pointer (some ⟨g, 2, none⟩)) rfl (Or.inl ⟨by rfl, ?_⟩) hHeld ?_
    · (intro u _; go_simp)
    (try simp only [Act.put, putA, putB, putC])
    refine late_tk 1 (v := .slice mO mL mC) rfl (List.Mem.head _) (Or.inl ⟨by rfl, ?_⟩) hHeld ?_
    · (intro u hu; (try dsimp only at hu); go_split_ands; go_simp)
    (try simp only [Act.put, putA, putB, putC])
    refine late_st 2 rfl (fun K hK => ?_)
    go_simp
    refine (of_any 1 _ (by decide)).mono ?_
    rintro e w22 ⟨v, rfl, ho, b22⟩
    obtain ⟨oo, ol, oc, rfl⟩ := ho.sl
    have uo := ho.num
    clear ho
    have B22 : Below w21.heap.size w21 w22 := bstep (below_drew' _) b22
    clear hHeld
    have hHeld : AllL w22 [(1, fun w' => w'.cell? ⟨g, 2, none⟩ = some (.slice mO mL mC))] := ⟨(qa.below B22).cells.2.2, trivial⟩
    go_wp2_with fail
    refine hK.out _ _ (AllL.kept hHeld) ?_
    clear hK K
    (try simp only [Act.put, putA, putB, putC])
    refine late_st 3 rfl (fun K hK => ?_)
    go_simp
    have hq := cmp_any _ _ _ _ _ ((ud.below (Nat.le_refl _) (below_drew' _)).below (Nat.le_refl _) b22) uo
    rw [val_lim, val_lim, HCC.out] at hq
    refine hq.mono ?_
    rintro e w23 ⟨rfl, q9, hq9⟩
    have b23 : Below w22.heap.size w22 w23 := by rw [hq9]; exact belowDN _ _
    clear hq hq9
    have B23 : Below w21.heap.size w21 w23 := bstep B22 b23
    clear hHeld
    have hHeld : AllL w23 [(1, fun w' => w'.cell? ⟨g, 2, none⟩ = some (.slice mO mL mC))] := ⟨(qa.below B23).cells.2.2, trivial⟩
    go_wp2_with fail
    refine hK.out _ _ (AllL.kept hHeld) ?_
    clear hK K
    (try simp only [Act.put, putA, putB, putC])
    refine late_fr 4 (v := .bool true) rfl (Or.inl ⟨by rfl, ?_⟩) hHeld ?_
    · (intro u _; go_simp)
    (try simp only [Act.put, putA, putB, putC])
    refine late_done (by kernel_rfl) ?_ _
    clear hHeld
    have b := B23
    clear b22 b23 B22 B23
    replace ud := ud.below (Nat.le_refl _) b
    replace qa := qa.below b
    replace hb := bstep hb b
    replace hsz := Nat.lt_of_lt_of_le hsz b.size
    clear b
    clear uo
    have HE : Hid (Below w.heap.size w w23) := hb
    clear hb hsz qa ud
    go_wp2_with fail
    go_ret
    exact ⟨rfl, HE.out⟩
  · obtain ⟨Z, hZ⟩ : ∃ Z, Z = x := ⟨_, rfl⟩
    rw [← hZ]
    rw [← hZ] at hone hsz0
    obtain ⟨p, q, ha, rfl, sp, sq⟩ := ha
    obtain ⟨na, ao, al, ac, aO, aL, aC, ya, rfl, ia, da, la, ea⟩ := ha
    have ra : RRaw w (.agg #[.bool na, .slice ao al ac, .slice aO aL aC]) p q := ⟨_, _, _, _, _, _, _, _, rfl, ia, da, la, ea⟩
    clear da la ea
    have HZ : Hid (Rat.divInt p (und q) = Z) := hZ.symm
    clear hZ
    have hzs := zt_size hsz0.num
    have hxs := txt_short (n := Z.den) (L := L) (by have := hsz0.den.len; rw [Int.natAbs_natCast] at this; exact this)
    obtain ⟨t, ht⟩ : ∃ t, t = zt Z.num := ⟨_, rfl⟩
    have HT : Hid (zt Z.num = t) := ht.symm
    rw [← ht] at hzs
    clear ht
    obtain ⟨t2, ht2⟩ : ∃ t, t = txt Z.den := ⟨_, rfl⟩
    have HT2 : Hid (txt Z.den = t2) := ht2.symm
    rw [← ht2] at hxs
    clear ht2
    have HRT : Hid (rt Z = t ++ ⟨#[47]⟩ ++ t2) := by show _ = _; unfold rt; rw [if_neg hone, HT.out, HT2.out]
    rw [HRT.out]
    have HONE : Hid (¬ Z.den = 1) := hone
    clear hone
    obtain ⟨W1, hW1⟩ : ∃ W1, W1 = w.alloc (.cells #[.bool na, .slice ao al ac, .slice aO aL aC] 27) := ⟨_, rfl⟩
    have qa : QCell W1 (w.heap.size) na (.slice ao al ac) (.slice aO aL aC) := by rw [hW1]; exact (qcell_new _ (by simp))
    have hb : Below w.heap.size w W1 := by rw [hW1]; exact belowA w _
    have hsz : w.heap.size < W1.heap.size := by rw [hW1]; simp
    replace ia := ia.below hb
    replace ra := ra.below hb
    have HW1 : Hid (W1 = w.alloc (.cells #[.bool na, .slice ao al ac, .slice aO aL aC] 27)) := hW1
    clear hW1
    go_enter Tryz.func19, Tryz.ntmps19
    go_wp2_with fail
    rw [← HW1.out]
    clear HW1
    obtain ⟨g, hg⟩ : ∃ g, g = w.heap.size := ⟨_, rfl⟩
    rw [← hg] at qa hsz ⊢
    have HG : Hid (g = w.heap.size) := hg
    clear hg
    refine region_late [(1, fun w' => w'.cell? ⟨g, 0, none⟩ = some (.bool na) ∧ w'.cell? ⟨g, 1, none⟩ = some (.slice ao al ac)), (2, fun w' => w'.cell? ⟨g, 0, none⟩ = some (.bool na) ∧ w'.cell? ⟨g, 1, none⟩ = some (.slice ao al ac) ∧ w'.cell? ⟨g, 2, none⟩ = some (.slice aO aL aC))] (by kernel_rfl) ?_
    have hHeld : AllL W1.drew [(1, fun w' => w'.cell? ⟨g, 0, none⟩ = some (.bool na) ∧ w'.cell? ⟨g, 1, none⟩ = some (.slice ao al ac)), (2, fun w' => w'.cell? ⟨g, 0, none⟩ = some (.bool na) ∧ w'.cell? ⟨g, 1, none⟩ = some (.slice ao al ac) ∧ w'.cell? ⟨g, 2, none⟩ = some (.slice aO aL aC))] := ⟨⟨(show QCell W1.drew (g) na (.slice ao al ac) (.slice aO aL aC) from qa).cells.1, (show QCell W1.drew (g) na (.slice ao al ac) (.slice aO aL aC) from qa).cells.2.1⟩, (show QCell W1.drew (g) na (.slice ao al ac) (.slice aO aL aC) from qa).cells, trivial⟩
    refine late_fr 0 (v := .pointer (some ⟨g, 0, none⟩)) rfl (Or.inl ⟨by rfl, ?_⟩) hHeld ?_
    · (intro u _; go_simp)
    (try simp only [Act.put, putA, putB, putC])
    refine late_tk 1 (v := .agg #[.bool na, .slice ao al ac]) rfl (List.Mem.head _) (Or.inl ⟨by rfl, ?_⟩) hHeld ?_
    · (intro u hu; (try dsimp only at hu); go_split_ands; go_simp)
    (try simp only [Act.put, putA, putB, putC])
    refine late_tk 2 (v := .agg #[.bool na, .slice ao al ac, .slice aO aL aC]) rfl (List.Mem.tail _ (List.Mem.head _)) (Or.inl ⟨by rfl, ?_⟩) hHeld ?_
    · (intro u hu; (try dsimp only at hu); go_split_ands; go_simp)
    (try simp only [Act.put, putA, putB, putC])
    refine late_st 3 rfl (fun K hK => ?_)
    go_simp
    refine (c_under (ra.below (below_drew' _))).mono ?_
    rintro e w2 ⟨v, rfl, hv, b2⟩
    obtain ⟨nm7, m7o, m7l, m7c, rfl, im7⟩ := hv.see
    clear hv
    have B2 : Below W1.heap.size W1 w2 := bstep (below_drew' _) b2
    clear hHeld
    have hHeld : AllL w2 [(1, fun w' => w'.cell? ⟨g, 0, none⟩ = some (.bool na) ∧ w'.cell? ⟨g, 1, none⟩ = some (.slice ao al ac)), (2, fun w' => w'.cell? ⟨g, 0, none⟩ = some (.bool na) ∧ w'.cell? ⟨g, 1, none⟩ = some (.slice ao al ac) ∧ w'.cell? ⟨g, 2, none⟩ = some (.slice aO aL aC))] := ⟨⟨(qa.below B2).cells.1, (qa.below B2).cells.2.1⟩, (qa.below B2).cells, trivial⟩
    go_wp2_with fail
    refine hK.out _ _ (AllL.kept hHeld) ?_
    clear hK K
    (try simp only [Act.put, putA, putB, putC])
    refine late_st 4 rfl (fun K hK => ?_)
    go_simp
    have hq := c_lowest ((ia.below (below_drew' _)).below b2) im7 (und_ne _)
    rw [HZ.out] at hq
    refine hq.mono ?_
    rintro e w3 ⟨v, rfl, hv, b3⟩
    clear hq
    obtain ⟨m, d, rfl, hm, hd, hap⟩ := hv
    obtain ⟨mo, ml, mc, rfl⟩ := hm.sl
    obtain ⟨mO, mL, mC, rfl⟩ := hd.sl
    have B3 : Below W1.heap.size W1 w3 := bstep B2 b3
    clear hHeld
    have hHeld : AllL w3 [(1, fun w' => w'.cell? ⟨g, 0, none⟩ = some (.bool na) ∧ w'.cell? ⟨g, 1, none⟩ = some (.slice ao al ac)), (2, fun w' => w'.cell? ⟨g, 0, none⟩ = some (.bool na) ∧ w'.cell? ⟨g, 1, none⟩ = some (.slice ao al ac) ∧ w'.cell? ⟨g, 2, none⟩ = some (.slice aO aL aC))] := ⟨⟨(qa.below B3).cells.1, (qa.below B3).cells.2.1⟩, (qa.below B3).cells, trivial⟩
    go_wp2_with fail
    refine hK.out _ _ (AllL.kept hHeld) ?_
    clear hK K
    (try simp only [Act.put, putA, putB, putC])
    have qq := qa.below B3
    have HE : Hid (REnd w Z (.returned (.agg #[.bool (decide (Z.num < 0)), .slice mo ml mc, .slice mO mL mC])) (((w3.setCell ⟨g, 0, none⟩ (.bool (decide (Z.num < 0)))).setCell ⟨g, 1, none⟩ (.slice mo ml mc)).setCell ⟨g, 2, none⟩ (.slice mO mL mC))) := rat_done rfl (by rw [HG.out]; omega) hm hd hap (Nat.lt_of_lt_of_le hsz B2.size) (bstep hb B3)
    have HW : Hid (QCell (((w3.setCell ⟨g, 0, none⟩ (.bool (decide (Z.num < 0)))).setCell ⟨g, 1, none⟩ (.slice mo ml mc)).setCell ⟨g, 2, none⟩ (.slice mO mL mC)) (g) (decide (Z.num < 0)) (.slice mo ml mc) (.slice mO mL mC)) := qq.write _ _ _
    obtain ⟨y0, y1, y2⟩ := qq.cells
    have f0 := qq.thaw 0
    have f1 := qq.thaw 1
    have f2 := qq.thaw 2
    generalize decide (Z.num < 0) = bb at *
    clear qq hap
    clear im7
    refine late_st 5 rfl (fun K hK => ?_)
    go_simp
    refine hK.out _ _ ⟨kpt 4, kpt 3, trivial⟩ ?_
    clear hK K
    (try simp only [Act.put, putA, putB, putC])
    refine late_done (by kernel_rfl) ?_ _
    clear hHeld
    clear hm hd qa ra ia b2 b3 B2 B3
    obtain ⟨Y, hY⟩ : ∃ Y, Y = (((w3.setCell ⟨g, 0, none⟩ (.bool bb)).setCell ⟨g, 1, none⟩ (.slice mo ml mc)).setCell ⟨g, 2, none⟩ (.slice mO mL mC)) := ⟨_, rfl⟩
    rw [← hY] at HE HW ⊢
    clear hY y0 y1 y2 f0 f1 f2
    obtain ⟨v, hv, ow, hb2⟩ := HE.out
    cases hv
    have qa := HW.out
    clear hb HE HW
    have hb := hb2
    clear hb2
    obtain ⟨ix, ud, hnn, ld⟩ := ow.std.parts hsz0 hL
    clear ow hnn
    clear hsz
    have hsz : g < Y.heap.size := (Array.getElem?_eq_some_iff.1 (show Y.heap[g]? = _ from qa)).1
    obtain ⟨cqa0, cqa1, cqa2⟩ := qa.cells
    go_wp2_with fail
    clear cqa0 cqa1 cqa2
    have hq := c_text ix
    rw [HT.out] at hq
    refine (hq).mono ?_
    rintro e w21 ⟨rfl, b⟩
    clear hq
    replace ix := ix.below b
    replace ud := ud.below (Nat.le_refl _) b
    replace qa := qa.below b
    replace hb := bstep hb b
    replace hsz := Nat.lt_of_lt_of_le hsz b.size
    clear b
    clear ix
    obtain ⟨cqa0, cqa1, cqa2⟩ := qa.cells
    go_wp2_with fail
    clear cqa0 cqa1 cqa2
    obtain ⟨c, hc⟩ : ∃ c, c = cmpN Z.den 1 := ⟨_, rfl⟩
    have HCC : Hid (cmpN Z.den 1 = c) := hc.symm
    have hc0 : (c == 0) = false := by rw [hc]; exact cmpN_ne HONE.out
    clear hc
    refine region_late [(1, fun w' => w'.cell? ⟨g, 2, none⟩ = some (.slice mO mL mC))] (by kernel_rfl) ?_
    have hHeld : AllL w21.drew [(1, fun w' => w'.cell? ⟨g, 2, none⟩ = some (.slice mO mL mC))] := ⟨(show QCell w21.drew (g) bb (.slice mo ml mc) (.slice mO mL mC) from qa).cells.2.2, trivial⟩
    refine late_fr 0 (v := .pointer (some ⟨g, 2, none⟩)) rfl (Or.inl ⟨by rfl, ?_⟩) hHeld ?_
    · (intro u _; go_simp)
    (try simp only [Act.put, putA, putB, putC])
    refine late_tk 1 (v := .slice mO mL mC) rfl (List.Mem.head _) (Or.inl ⟨by rfl, ?_⟩) hHeld ?_
    · (intro u hu; (try dsimp only at hu); go_split_ands; go_simp)
    (try simp only [Act.put, putA, putB, putC])
    refine late_st 2 rfl (fun K hK => ?_)
    go_simp
    refine (of_any 1 _ (by decide)).mono ?_
    rintro e w22 ⟨v, rfl, ho, b22⟩
    obtain ⟨oo, ol, oc, rfl⟩ := ho.sl
    have uo := ho.num
    clear ho
    have B22 : Below w21.heap.size w21 w22 := bstep (below_drew' _) b22
    clear hHeld
    have hHeld : AllL w22 [(1, fun w' => w'.cell? ⟨g, 2, none⟩ = some (.slice mO mL mC))] := ⟨(qa.below B22).cells.2.2, trivial⟩
    go_wp2_with fail
    refine hK.out _ _ (AllL.kept hHeld) ?_
    clear hK K
    (try simp only [Act.put, putA, putB, putC])
    refine late_st 3 rfl (fun K hK => ?_)
    go_simp
    have hq := cmp_any _ _ _ _ _ ((ud.below (Nat.le_refl _) (below_drew' _)).below (Nat.le_refl _) b22) uo
    rw [val_lim, val_lim, HCC.out] at hq
    refine hq.mono ?_
    rintro e w23 ⟨rfl, q9, hq9⟩
    have b23 : Below w22.heap.size w22 w23 := by rw [hq9]; exact belowDN _ _
    clear hq hq9
    have B23 : Below w21.heap.size w21 w23 := bstep B22 b23
    clear hHeld
    have hHeld : AllL w23 [(1, fun w' => w'.cell? ⟨g, 2, none⟩ = some (.slice mO mL mC))] := ⟨(qa.below B23).cells.2.2, trivial⟩
    go_wp2_with fail
    refine hK.out _ _ (AllL.kept hHeld) ?_
    clear hK K
    (try simp only [Act.put, putA, putB, putC])
    refine late_fr 4 (v := .bool false) rfl (Or.inl ⟨by rfl, ?_⟩) hHeld ?_
    · (intro u _; go_simp)
    (try simp only [Act.put, putA, putB, putC])
    refine late_done (by kernel_rfl) ?_ _
    clear hHeld
    have b := B23
    clear b22 b23 B22 B23
    replace ud := ud.below (Nat.le_refl _) b
    replace qa := qa.below b
    replace hb := bstep hb b
    replace hsz := Nat.lt_of_lt_of_le hsz b.size
    clear b
    clear uo
    obtain ⟨cqa0, cqa1, cqa2⟩ := qa.cells
    go_wp2_with fail
    clear cqa0 cqa1 cqa2
    have hq := text_any _ _ _ ud (by omega)
    rw [val_lim, HT2.out] at hq
    refine (hq).mono ?_
    rintro e w24 ⟨rfl, b⟩
    clear hq
    replace ud := ud.below (Nat.le_refl _) b
    replace qa := qa.below b
    replace hb := bstep hb b
    replace hsz := Nat.lt_of_lt_of_le hsz b.size
    clear b
    have HE : Hid (Below w.heap.size w w24) := hb
    clear hb hsz qa ud
    go_wp2_with fail
    go_ret
    exact ⟨rfl, HE.out⟩
end Go.Proofs.YtfnafgjnimfmjaaGreatDoor
