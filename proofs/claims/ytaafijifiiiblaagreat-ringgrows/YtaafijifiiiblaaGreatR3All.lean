/-
  Proved here: what the small functions of credencelaw03 answer.
  Proved here: what New, Of, Same, LendInt and KeptInt of the document's layer 3 answer, and the law's cutInt.
-/
import Derived.Test.YtaafijifiiiblaaGreatFracF
import Derived.Test.YtaafijifiiiblaaGreatFracEAll
import Derived.Deep.RegionHeld3
import Derived.Deep.DrawnRows
namespace Go.Proofs.YtaafijifiiiblaaGreat
open Go.RowKit

theorem num_len {w : World} {o : Option Addr} {l c : Nat} {xs : List Nat} (h : Num w (.slice o l c) xs) : xs.length = l ∧ l ≤ c ∧ c ≤ 9223372036854775807 := by
  obtain ⟨ao, cap, e, h1, h2⟩ := h.ao
  simp only [Value.slice.injEq] at e
  obtain ⟨_, rfl, rfl⟩ := e
  exact ⟨rfl, h1, h2⟩
/-- A number cut to so many limbs. -/
theorem num_cut {w : World} {o : Option Addr} {l c : Nat} {xs : List Nat} (h : Num w (.slice o l c) xs) {k : Nat} (hk : k ≤ l) : Num w (.slice o k c) (xs.take k) := by
  have h1 := h.cut (k := k) (by rw [(num_len h).1]; exact hk)
  exact h1
set_option maxRecDepth 100000 in
set_option maxHeartbeats 6400000 in
theorem c_cut (na : Bool) (ao aO : Option Addr) (al ac aL aC k : Nat) (xa ya : List Nat) (w : World) (ha : Num w (.slice ao al ac) xa) (hd : Num w (.slice aO aL aC) ya) (hk : k ≤ 1000) :
    Calls Tryz.prog 10 #[.agg #[.bool na, .slice ao al ac, .slice aO aL aC], .int .i64 k] w fun e w' => e = .returned (.agg #[.bool na, .slice ao (min al k) ac, .slice aO (min aL k) aC]) ∧ Below w.heap.size w w' := by
  obtain ⟨_, h1, h2⟩ := num_len ha
  obtain ⟨_, h3, h4⟩ := num_len hd
  clear ha hd
  by_cases hla : k < al
  · by_cases hlb : k < aL
    · have e1 : min al k = k := by omega
      have e2 : min aL k = k := by omega
      have hla2 : (k : Int) < (al : Int) := by omega
      have hlb2 : (k : Int) < (aL : Int) := by omega
      have hla3 : (k : Int) ≤ (ac : Int) := by omega
      have hlb3 : (k : Int) ≤ (aC : Int) := by omega
      rw [e1, e2]
      clear e1 e2
      go_enter Tryz.func10, Tryz.ntmps10
      go_wp2
      (try simp only [Exit.inBlock, Exit.then])
      exact bodyPost_ret (results_cell_row rfl _ _ (w.heap.size + 1) 27 _ (0, 0) _ rfl (heap_alloc2_new w _ _) Tryz.underlying27 rfl (by kernel_rfl)) rfl ⟨rfl, bstep (belowA _ _) (belowA _ _)⟩
    · have e1 : min al k = k := by omega
      have e2 : min aL k = aL := by omega
      have hla2 : (k : Int) < (al : Int) := by omega
      have hlb2 : ¬ (k : Int) < (aL : Int) := by omega
      have hla3 : (k : Int) ≤ (ac : Int) := by omega
      clear h3
      rw [e1, e2]
      clear e1 e2
      go_enter Tryz.func10, Tryz.ntmps10
      go_wp2
      (try simp only [Exit.inBlock, Exit.then])
      exact bodyPost_ret (results_cell_row rfl _ _ (w.heap.size + 1) 27 _ (0, 0) _ rfl (heap_alloc2_new w _ _) Tryz.underlying27 rfl (by kernel_rfl)) rfl ⟨rfl, bstep (belowA _ _) (belowA _ _)⟩
  · by_cases hlb : k < aL
    · have e1 : min al k = al := by omega
      have e2 : min aL k = k := by omega
      have hla2 : ¬ (k : Int) < (al : Int) := by omega
      have hlb2 : (k : Int) < (aL : Int) := by omega
      clear h1
      have hlb3 : (k : Int) ≤ (aC : Int) := by omega
      rw [e1, e2]
      clear e1 e2
      go_enter Tryz.func10, Tryz.ntmps10
      go_wp2
      (try simp only [Exit.inBlock, Exit.then])
      exact bodyPost_ret (results_cell_row rfl _ _ (w.heap.size + 1) 27 _ (0, 0) _ rfl (heap_alloc2_new w _ _) Tryz.underlying27 rfl (by kernel_rfl)) rfl ⟨rfl, bstep (belowA _ _) (belowA _ _)⟩
    · have e1 : min al k = al := by omega
      have e2 : min aL k = aL := by omega
      have hla2 : ¬ (k : Int) < (al : Int) := by omega
      have hlb2 : ¬ (k : Int) < (aL : Int) := by omega
      clear h1
      clear h3
      rw [e1, e2]
      clear e1 e2
      go_enter Tryz.func10, Tryz.ntmps10
      go_wp2
      (try simp only [Exit.inBlock, Exit.then])
      exact bodyPost_ret (results_cell_row rfl _ _ (w.heap.size + 1) 27 _ (0, 0) _ rfl (heap_alloc2_new w _ _) Tryz.underlying27 rfl (by kernel_rfl)) rfl ⟨rfl, bstep (belowA _ _) (belowA _ _)⟩
end Go.Proofs.YtaafijifiiiblaaGreat

namespace Go.Proofs.YtaafijifiiiblaaGreat
open Go.RowKit
attribute [local go_sem ↓] Go.wp_at_zero Go.wp_at_succ

/-- A whole number that can be read, of so many limbs. -/
def IB (w : World) (v : Value) (z : Int) (L : Nat) : Prop := ∃ n o l c xs, v = .agg #[.bool n, .slice o l c] ∧ Num w (.slice o l c) xs ∧ xs.length ≤ L ∧ zv n (val xs) = z
theorem IB.below {w w' : World} {v : Value} {z : Int} {L : Nat} (h : IB w v z L) (hb : Below w.heap.size w w') : IB w' v z L := by
  obtain ⟨n, o, l, c, xs, e, h1, h2⟩ := h
  exact ⟨n, o, l, c, xs, e, h1.below (Nat.le_refl _) hb, h2⟩
theorem IOwn.ib {B : Nat} {w : World} {v : Value} {z : Int} {L : Nat} (h : IOwn B w v z) (hl : (lim z.natAbs).length ≤ L) : IB w v z L := by
  obtain ⟨m, rfl, hm⟩ := h
  obtain ⟨mo, ml, mc, rfl⟩ := hm.sl
  exact ⟨_, _, _, _, _, rfl, hm.num, hl, by rw [val_lim]; exact zv_self z⟩
theorem lim_i64 {n : Int} (h1 : -9223372036854775808 ≤ n) (h2 : n ≤ 9223372036854775807) : (lim n.natAbs).length ≤ 300 := by
  have e : (4294967296 : Nat) ^ 2 = 18446744073709551616 := by decide
  exact Nat.le_trans (lim_len_le (k := 2) (by rw [e]; omega)) (by decide)
theorem div_signs {na nb : Bool} {A D : Nat} : Rat.divInt (zv (na != nb) A) (D : Int) = Rat.divInt (zv na A) (zv nb D) := by
  by_cases h : D = 0
  · rw [h]; cases nb <;> simp [zv]
  · refine (Rat.divInt_eq_divInt_iff (by omega) (by cases nb <;> simp [zv] <;> omega)).2 ?_
    cases na <;> cases nb <;> simp [zv, Int.neg_mul, Int.mul_neg]
set_option maxRecDepth 100000 in
set_option maxHeartbeats 6400000 in
theorem new3_yes {a b : Value} {p q : Int} {w : World} (ha : IB w a p 300) (hb' : IB w b q 300) (hq : q ≠ 0) : Calls Tryz.prog 114 #[a, b] w fun e w' => RTEnd w (Rat.divInt p q) e w' := by
  obtain ⟨Z, hZ⟩ : ∃ Z, Z = Rat.divInt p q := ⟨_, rfl⟩
  have HZ : Hid (Rat.divInt p q = Z) := hZ.symm
  rw [← hZ]
  clear hZ
  obtain ⟨na, ao, al, ac, xa, rfl, ua, la, za⟩ := ha
  have ia : INum w (.agg #[.bool na, .slice ao al ac]) p := ⟨_, _, _, _, _, rfl, ua, by omega, za⟩
  obtain ⟨nb, bo, bl, bc, xb, rfl, ub, lb, zb⟩ := hb'
  have ib : INum w (.agg #[.bool nb, .slice bo bl bc]) q := ⟨_, _, _, _, _, rfl, ub, by omega, zb⟩
  obtain ⟨c, hc⟩ : ∃ c, c = cmpZ q 0 := ⟨_, rfl⟩
  have HC : Hid (cmpZ q 0 = c) := hc.symm
  have hc0 : (c == 0) = false := by rw [hc, cmpZ_eq]; exact decide_eq_false hq
  have HQ : Hid (q ≠ 0) := hq
  have HLA : Hid (xa.length ≤ 300) := la
  have HLB : Hid (xb.length ≤ 300) := lb
  have HZA : Hid (zv na (val xa) = p) := za
  have HZB : Hid (zv nb (val xb) = q) := zb
  clear hq hc la lb za zb
  obtain ⟨W1, hW1⟩ : ∃ W1, W1 = ((w.alloc (.cells #[.bool na, .slice ao al ac] 25)).alloc (.cells #[.bool nb, .slice bo bl bc] 25)).alloc (.cells #[.bool false, .slice none 0 0, .slice none 0 0] 27) := ⟨_, rfl⟩
  have qa : ICell W1 (w.heap.size) na (.slice ao al ac) := by rw [hW1]; exact (icell_step (icell_step (icell_new _ (by simp))))
  have qb : ICell W1 (w.heap.size + 1) nb (.slice bo bl bc) := by rw [hW1]; exact (icell_step (icell_new _ (by simp)))
  have qR : QCell W1 (w.heap.size + 1 + 1) false (.slice none 0 0) (.slice none 0 0) := by rw [hW1]; exact (qcell_new _ (by simp))
  have hb : Below w.heap.size w W1 := by rw [hW1]; exact bstep (bstep (belowA w _) (belowA _ _)) (belowA _ _)
  have hsz : w.heap.size + 1 + 1 < W1.heap.size := by rw [hW1]; simp
  replace ua := ua.below (Nat.le_refl _) hb
  replace ub := ub.below (Nat.le_refl _) hb
  have HW1 : Hid (W1 = ((w.alloc (.cells #[.bool na, .slice ao al ac] 25)).alloc (.cells #[.bool nb, .slice bo bl bc] 25)).alloc (.cells #[.bool false, .slice none 0 0, .slice none 0 0] 27)) := hW1
  clear hW1
  go_enter Tryz.func114, Tryz.ntmps114
  go_wp2_with fail
  rw [← HW1.out]
  clear HW1
  obtain ⟨g, hg⟩ : ∃ g, g = w.heap.size := ⟨_, rfl⟩
  rw [← hg] at qa qb qR hsz ⊢
  have HG : Hid (g = w.heap.size) := hg
  clear hg
  have hs := r_sign (ib.below hb)
  rw [HC.out] at hs
  clear ib ia
  obtain ⟨cqa0, cqa1⟩ := qa.cells
  obtain ⟨cqb0, cqb1⟩ := qb.cells
  obtain ⟨cqR0, cqR1, cqR2⟩ := qR.cells
  go_wp2_with fail
  clear cqa0 cqa1 cqb0 cqb1 cqR0 cqR1 cqR2
  refine (hs).mono ?_
  rintro e w2 ⟨rfl, b⟩
  clear hs
  replace ua := ua.below (Nat.le_refl _) b
  replace ub := ub.below (Nat.le_refl _) b
  replace qa := qa.below b
  replace qb := qb.below b
  replace qR := qR.below b
  replace hb := bstep hb b
  replace hsz := Nat.lt_of_lt_of_le hsz b.size
  clear b
  obtain ⟨cqa0, cqa1⟩ := qa.cells
  obtain ⟨cqb0, cqb1⟩ := qb.cells
  obtain ⟨cqR0, cqR1, cqR2⟩ := qR.cells
  obtain ⟨ns, hns⟩ : ∃ s, s = (na != nb) := ⟨_, rfl⟩
  have hns2 : (na != nb) = ns := hns.symm
  have HNS : Hid (ns = (na != nb)) := hns
  clear hns
  go_wp2_with fail
  clear cqa0 cqa1 cqb0 cqb1 cqR0 cqR1 cqR2
  have hq := lowest3 ns _ _ _ _ _ _ _ _ _ ua ub (Nat.le_trans HLA.out (by decide)) (Nat.le_trans HLB.out (by decide)) (by have h := HQ.out; rw [← HZB.out] at h; intro e; rw [e] at h; cases nb <;> exact h rfl)
  rw [HNS.out, div_signs, HZA.out, HZB.out, HZ.out] at hq
  have hszz := hsz
  refine (hq).mono ?_
  rintro e w3 ⟨v, rfl, hv, b⟩
  clear hq
  obtain ⟨m, d, rfl, hm, hd, hap⟩ := hv
  obtain ⟨mo, ml, mc, rfl⟩ := hm.sl
  obtain ⟨mO, mL, mC, rfl⟩ := hd.sl
  replace ua := ua.below (Nat.le_refl _) b
  replace ub := ub.below (Nat.le_refl _) b
  replace qa := qa.below b
  replace qb := qb.below b
  replace qR := qR.below b
  replace hb := bstep hb b
  replace hsz := Nat.lt_of_lt_of_le hsz b.size
  clear b
  have qq := qR
  have HE : Hid (REnd w Z (.returned (.agg #[.bool (decide (Z.num < 0)), .slice mo ml mc, .slice mO mL mC])) (((w3.setCell ⟨g + 1 + 1, 0, none⟩ (.bool (decide (Z.num < 0)))).setCell ⟨g + 1 + 1, 1, none⟩ (.slice mo ml mc)).setCell ⟨g + 1 + 1, 2, none⟩ (.slice mO mL mC))) := rat_done rfl (by rw [HG.out]; omega) hm hd hap hszz (hb)
  have HW : Hid (QCell (((w3.setCell ⟨g + 1 + 1, 0, none⟩ (.bool (decide (Z.num < 0)))).setCell ⟨g + 1 + 1, 1, none⟩ (.slice mo ml mc)).setCell ⟨g + 1 + 1, 2, none⟩ (.slice mO mL mC)) (g + 1 + 1) (decide (Z.num < 0)) (.slice mo ml mc) (.slice mO mL mC)) := qq.write _ _ _
  obtain ⟨y0, y1, y2⟩ := qq.cells
  have f0 := qq.thaw 0
  have f1 := qq.thaw 1
  have f2 := qq.thaw 2
  generalize decide (Z.num < 0) = bb at *
  clear qq hap
  clear hb hsz hszz hm hd qa qb qR ua ub hns2
  go_wp2_with fail
  (try simp only [Exit.inBlock, Exit.then])
  exact bodyPost_ret (results_ct (p := 4) (u := 5) rfl _ _ (g + 1 + 1) 27 _ (0, 0) _ rfl HW.out Tryz.underlying27 rfl (by kernel_rfl)) rfl HE.out.t
set_option maxRecDepth 100000 in
set_option maxHeartbeats 6400000 in
theorem of3_yes {n d : Int} {w : World} (h1 : -9223372036854775808 ≤ n) (h2 : n ≤ 9223372036854775807) (h3 : -9223372036854775808 ≤ d) (h4 : d ≤ 9223372036854775807) (hd : d ≠ 0) : Calls Tryz.prog 92 #[.int .i64 n, .int .i64 d] w fun e w' => RTEnd w (Rat.divInt n d) e w' := by
  obtain ⟨Z, hZ⟩ : ∃ Z, Z = Rat.divInt n d := ⟨_, rfl⟩
  have HZ : Hid (Rat.divInt n d = Z) := hZ.symm
  rw [← hZ]
  clear hZ
  have HD : Hid (d ≠ 0) := hd
  clear hd
  obtain ⟨W1, hW1⟩ : ∃ W1, W1 = w.alloc (.cells #[.bool false, .slice none 0 0, .slice none 0 0] 27) := ⟨_, rfl⟩
  have qR : QCell W1 (w.heap.size) false (.slice none 0 0) (.slice none 0 0) := by rw [hW1]; exact (qcell_new _ (by simp))
  have hb : Below w.heap.size w W1 := by rw [hW1]; exact belowA w _
  have hsz : w.heap.size < W1.heap.size := by rw [hW1]; simp
  have HW1 : Hid (W1 = w.alloc (.cells #[.bool false, .slice none 0 0, .slice none 0 0] 27)) := hW1
  clear hW1
  go_enter Tryz.func92, Tryz.ntmps92
  go_wp2_with fail
  rw [← HW1.out]
  clear HW1
  obtain ⟨g, hg⟩ : ∃ g, g = w.heap.size := ⟨_, rfl⟩
  rw [← hg] at qR hsz ⊢
  have HG : Hid (g = w.heap.size) := hg
  clear hg
  refine (r_of n _ h1 h2).mono ?_
  rintro e w2 ⟨v, rfl, hv, b⟩
  have ia := hv.ib (lim_i64 h1 h2)
  obtain ⟨m, rfl, hm⟩ := hv
  obtain ⟨ao, al, ac, rfl⟩ := hm.sl
  clear hm
  generalize decide (n < 0) = na at *
  replace qR := qR.below b
  replace hb := bstep hb b
  replace hsz := Nat.lt_of_lt_of_le hsz b.size
  clear b
  obtain ⟨cqR0, cqR1, cqR2⟩ := qR.cells
  go_wp2_with fail
  clear cqR0 cqR1 cqR2
  refine (r_of d _ h3 h4).mono ?_
  rintro e w3 ⟨v, rfl, hv, b⟩
  have ib := hv.ib (lim_i64 h3 h4)
  obtain ⟨m, rfl, hm⟩ := hv
  obtain ⟨bo, bl, bc, rfl⟩ := hm.sl
  clear hm
  generalize decide (d < 0) = nb at *
  replace ia := ia.below b
  replace qR := qR.below b
  replace hb := bstep hb b
  replace hsz := Nat.lt_of_lt_of_le hsz b.size
  clear b
  obtain ⟨cqR0, cqR1, cqR2⟩ := qR.cells
  go_wp2_with fail
  clear cqR0 cqR1 cqR2
  have hq := new3_yes ia ib HD.out
  rw [HZ.out] at hq
  have hszz := hsz
  refine (hq).mono ?_
  rintro e w4 ⟨v, rfl, hv, b⟩
  clear hq
  obtain ⟨m, d, rfl, hm, hd, hap⟩ := hv
  obtain ⟨mo, ml, mc, rfl⟩ := hm.sl
  obtain ⟨mO, mL, mC, rfl⟩ := hd.sl
  replace ia := ia.below b
  replace ib := ib.below b
  replace qR := qR.below b
  replace hb := bstep hb b
  replace hsz := Nat.lt_of_lt_of_le hsz b.size
  clear b
  have qq := qR
  have HE : Hid (REnd w Z (.returned (.agg #[.bool (decide (Z.num < 0)), .slice mo ml mc, .slice mO mL mC])) (((w4.setCell ⟨g, 0, none⟩ (.bool (decide (Z.num < 0)))).setCell ⟨g, 1, none⟩ (.slice mo ml mc)).setCell ⟨g, 2, none⟩ (.slice mO mL mC))) := rat_done rfl (by rw [HG.out]; omega) hm hd hap hszz (hb)
  have HW : Hid (QCell (((w4.setCell ⟨g, 0, none⟩ (.bool (decide (Z.num < 0)))).setCell ⟨g, 1, none⟩ (.slice mo ml mc)).setCell ⟨g, 2, none⟩ (.slice mO mL mC)) (g) (decide (Z.num < 0)) (.slice mo ml mc) (.slice mO mL mC)) := qq.write _ _ _
  obtain ⟨y0, y1, y2⟩ := qq.cells
  have f0 := qq.thaw 0
  have f1 := qq.thaw 1
  have f2 := qq.thaw 2
  generalize decide (Z.num < 0) = bb at *
  clear qq hap
  clear hb hsz hszz hm hd qR ia ib 
  go_wp2_with fail
  (try simp only [Exit.inBlock, Exit.then])
  exact bodyPost_ret (results_ct (p := 4) (u := 5) rfl _ _ (g) 27 _ (0, 0) _ rfl HW.out Tryz.underlying27 rfl (by kernel_rfl)) rfl HE.out.t
end Go.Proofs.YtaafijifiiiblaaGreat
